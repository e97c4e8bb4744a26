import Derived.Test.YtgjmodclgdkodaaP40Z18
import Derived.Test.YtgjmodclgdkodaaP40Z2
import Derived.Test.YtgjmodclgdkodaaP40Z1
import Derived.Test.YtgjmodclgdkodaaP40Z10
import Derived.Deep.OwnRows
import Derived.Laws.EntriesVeiled
import Derived.Test.YtgjmodclgdkodaaP40Z15
/- order: a grid tells what multisets tell: plain. -/

namespace Go.Proofs.Ytgjmodclgdkodaa

open Go.RowKit Go.Shelf
set_option maxRecDepth 100000

/-- The columns that are left. -/
def keepC {α : Type} : List α → List Bool → List α
  | x :: n, g :: gs => if g = true then keepC n gs else x :: keepC n gs
  | _, _ => []

section

variable {α : Type} {rel : α → α → Int}

theorem keepC_mem {y : α} : ∀ {n : List α} {gone : List Bool}, y ∈ keepC n gone ↔ ∃ j : Nat, n[j]? = some y ∧ gone[j]? = some false
  | [], gone => by simp [keepC]
  | x :: n, [] => by simp [keepC]
  | x :: n, g :: gs => by
    have ih := keepC_mem (y := y) (n := n) (gone := gs)
    cases g with
    | true =>
      rw [keepC, if_pos rfl, ih]
      constructor
      · rintro ⟨j, h1, h2⟩; exact ⟨j + 1, by simpa using h1, by simpa using h2⟩
      · rintro ⟨j, h1, h2⟩
        cases j with
        | zero => simp at h2
        | succ j => exact ⟨j, by simpa using h1, by simpa using h2⟩
    | false =>
      rw [keepC, if_neg (by decide), List.mem_cons, ih]
      constructor
      · rintro (rfl | ⟨j, h1, h2⟩)
        · exact ⟨0, rfl, rfl⟩
        · exact ⟨j + 1, by simpa using h1, by simpa using h2⟩
      · rintro ⟨j, h1, h2⟩
        cases j with
        | zero => simp at h1; exact .inl h1.symm
        | succ j => exact .inr ⟨j, by simpa using h1, by simpa using h2⟩

theorem keepC_all : ∀ (n : List α), keepC n (List.replicate n.length false) = n
  | [] => rfl
  | x :: n => by rw [List.length_cons, List.replicate_succ, keepC, if_neg (by decide), keepC_all n]

theorem strike_hit {a y : α} : ∀ {n : List α} {gone : List Bool} {j : Nat}, n[j]? = some y → gone[j]? = some false → rel a y = 2 → (∀ i x, i < j → n[i]? = some x → gone[i]? = some false → rel a x ≠ 2) → strike rel a (keepC n gone) = some (keepC n (gone.set j true))
  | [], _, _, h, _, _, _ => by simp at h
  | _ :: _, [], _, _, h, _, _ => by simp at h
  | x :: n, g :: gs, 0, h1, h2, h3, _ => by
    simp at h1 h2; subst h1; subst h2
    rw [keepC, if_neg (by decide), List.set_cons_zero, keepC, if_pos rfl, strike, if_pos h3]
  | x :: n, g :: gs, j + 1, h1, h2, h3, h4 => by
    have ih := strike_hit (a := a) (y := y) (n := n) (gone := gs) (j := j) (by simpa using h1) (by simpa using h2) h3 (fun i x hi e1 e2 => h4 (i + 1) x (by omega) (by simpa using e1) (by simpa using e2))
    rw [List.set_cons_succ]
    cases g with
    | true => rw [keepC, if_pos rfl, keepC, if_pos rfl, ih]
    | false =>
      rw [keepC, if_neg (by decide), keepC, if_neg (by decide), strike, if_neg (h4 0 x (by omega) rfl rfl), ih]; rfl

theorem strike_miss {a : α} : ∀ {l : List α}, (∀ x ∈ l, rel a x ≠ 2) → strike rel a l = none
  | [], _ => rfl
  | x :: l, h => by
    rw [strike, if_neg (h x (by simp)), strike_miss fun y hy => h y (by simp [hy])]; rfl

/-- How a member stands to each column. -/
def qOf (rel : α → α → Int) (n : List α) (a : α) (j : Nat) : Int := match n[j]? with
  | some x => rel a x
  | none => 0

theorem qOf_at {n : List α} {a x : α} {j : Nat} (h : n[j]? = some x) : qOf rel n a j = rel a x := by unfold qOf; rw [h]

/-- What holds as members are taken in. -/
structure GInv (rel : α → α → Int) (m n : List α) (i : Nat) (R : List α) (rels rows : List Int) (gone : List Bool) : Prop where
  gl : gone.length = n.length
  wl : rows.length = R.length
  rl : rels.length = R.length * n.length
  ri : R.length ≤ i
  ro : ∀ k, k < R.length → rows[k]? = some ((k * n.length : Nat) : Int)
  at_ : ∀ (k j : Nat) (x y : α), R[k]? = some x → n[j]? = some y → gone[j]? = some false → rels[k * n.length + j]? = some (rel x y)
  i4 : ∀ r ∈ rels, In4 r
  lf : leftM rel m n = (R ++ (leftM rel (m.drop i) (keepC n gone)).1, (leftM rel (m.drop i) (keepC n gone)).2)

theorem GInv.start (rel : α → α → Int) (m n : List α) : GInv rel m n 0 [] [] [] (List.replicate n.length false) :=
  ⟨by simp, rfl, by simp, Nat.le_refl _, fun k hk => by simp at hk, fun k j x y h => by simp at h, fun r hr => by simp at hr, by rw [keepC_all]; simp⟩

theorem GInv.step {m n : List α} {i : Nat} {R : List α} {rels rows : List Int} {gone : List Bool} {rels' rows' : List Int} {gone' : List Bool} {a : α} (h : GInv rel m n i R rels rows gone) (ha : m[i]? = some a) (h4 : ∀ x y, x ∈ m → y ∈ n → In4 (rel x y)) (hp : AddP (qOf rel n a) rels rows gone rels' rows' gone') :
    ∃ R', GInv rel m n (i + 1) R' rels' rows' gone' := by
  have hlt := (List.getElem?_eq_some_iff.1 ha).1
  have hd : m.drop i = a :: m.drop (i + 1) := by
    rw [List.drop_eq_getElem_cons hlt]; congr 1; exact (List.getElem?_eq_some_iff.1 ha).2
  have hgn : ∀ j : Nat, gone[j]? = some false → ∃ y, n[j]? = some y := fun j e => ⟨_, List.getElem?_eq_getElem (by rw [← h.gl]; exact (List.getElem?_eq_some_iff.1 e).1)⟩
  rcases hp with ⟨j, hj, hq, hno, rfl, rfl, rfl⟩ | ⟨hno, rfl, rfl, rfl⟩
  · obtain ⟨y, hy⟩ := hgn j hj
    rw [qOf_at hy] at hq
    have hs := strike_hit (rel := rel) (a := a) hy hj hq (fun k x hk e1 e2 => by have := hno k hk e2; rwa [qOf_at e1] at this)
    refine ⟨R, ⟨by rw [List.length_set]; exact h.gl, h.wl, h.rl, Nat.le_succ_of_le h.ri, h.ro, fun k l x z e1 e2 e3 => h.at_ k l x z e1 e2 ?_, h.i4, ?_⟩⟩
    · rw [List.getElem?_set] at e3
      split at e3
      · split at e3 <;> cases e3
      · exact e3
    · rw [h.lf, hd, leftM, hs]
  · have hs : strike rel a (keepC n gone') = none := strike_miss fun x hx => by
      obtain ⟨j, e1, e2⟩ := keepC_mem.1 hx
      have := hno j e2
      rwa [qOf_at e1] at this
    have hcl : (colR (qOf rel n a) gone').length = n.length := by rw [colR_len, h.gl]
    refine ⟨R ++ [a], ⟨h.gl, by simp [h.wl], ?_, by have := h.ri; simp; omega, fun k hk => ?_, fun k j x y e1 e2 e3 => ?_, fun r hr => ?_, ?_⟩⟩
    · rw [List.length_append, hcl, h.rl, List.length_append, List.length_singleton, Nat.add_mul, Nat.one_mul]
    · rw [List.length_append, List.length_singleton] at hk
      by_cases e : k = R.length
      · subst e
        rw [← h.wl, List.getElem?_append_right (Nat.le_refl _), Nat.sub_self, h.wl, ← h.rl]; rfl
      · rw [List.getElem?_append_left (by rw [h.wl]; omega)]
        exact h.ro k (by omega)
    · have hjn : j < n.length := (List.getElem?_eq_some_iff.1 e2).1
      by_cases e : k = R.length
      · subst e
        rw [List.getElem?_append_right (Nat.le_refl _), Nat.sub_self] at e1
        simp at e1; subst e1
        rw [← h.rl, List.getElem?_append_right (by omega), Nat.add_sub_cancel_left]
        unfold colR
        rw [List.getElem?_map, List.getElem?_range (by rw [h.gl]; exact hjn)]
        simp only [Option.map_some, Option.some.injEq]
        rw [List.getD_eq_getElem?_getD, e3, if_neg (by decide), qOf_at e2]
      · have hk : k < R.length := by
          have := (List.getElem?_eq_some_iff.1 e1).1
          rw [List.length_append, List.length_singleton] at this
          omega
        rw [List.getElem?_append_left hk] at e1
        have := h.at_ k j x y e1 e2 e3
        rw [List.getElem?_append_left (List.getElem?_eq_some_iff.1 this).1]
        exact this
    · rcases List.mem_append.1 hr with hr | hr
      · exact h.i4 r hr
      · unfold colR at hr
        obtain ⟨j, hj, rfl⟩ := List.mem_map.1 hr
        split
        · exact .inl rfl
        · rw [List.mem_range, h.gl] at hj
          rw [qOf_at (List.getElem?_eq_getElem hj)]
          exact h4 _ _ (List.mem_of_getElem? ha) (List.getElem_mem hj)
    · rw [h.lf, hd, leftM, hs]
      simp

theorem colsI_mem {gone : List Bool} {x : Int} : x ∈ colsI gone ↔ ∃ j : Nat, x = (j : Int) ∧ gone[j]? = some false := by
  unfold colsI colsT
  rw [List.mem_map]
  constructor
  · rintro ⟨j, hj, rfl⟩
    rw [List.mem_filter, List.mem_range] at hj
    refine ⟨j, rfl, ?_⟩
    have h2 := hj.2
    rw [List.getD_eq_getElem?_getD, List.getElem?_eq_getElem hj.1] at h2
    rw [List.getElem?_eq_getElem hj.1]
    simpa using h2
  · rintro ⟨j, rfl, h⟩
    have hlt := (List.getElem?_eq_some_iff.1 h).1
    refine ⟨j, ?_, rfl⟩
    rw [List.mem_filter, List.mem_range]
    exact ⟨hlt, by rw [List.getD_eq_getElem?_getD, h]; rfl⟩

section

variable {m n : List α} {i : Nat} {R : List α} {rels rows : List Int} {gone : List Bool} (h : GInv rel m n i R rels rows gone)
include h

theorem GInv.row {x : Int} : x ∈ rows ↔ ∃ k : Nat, k < R.length ∧ x = ((k * n.length : Nat) : Int) := by
  constructor
  · intro hx
    obtain ⟨k, hk⟩ := List.getElem?_of_mem hx
    have hlt := (List.getElem?_eq_some_iff.1 hk).1
    rw [h.wl] at hlt
    rw [h.ro k hlt] at hk
    injection hk with hk
    exact ⟨k, hlt, hk.symm⟩
  · rintro ⟨k, hk, rfl⟩
    exact List.mem_of_getElem? (h.ro k hk)

theorem GInv.plc : PlcG rels rows (colsI gone) := by
  intro x hx y hy
  obtain ⟨k, hk, rfl⟩ := h.row.1 hx
  obtain ⟨j, rfl, hj⟩ := colsI_mem.1 hy
  have hjn : j < n.length := by rw [← h.gl]; exact (List.getElem?_eq_some_iff.1 hj).1
  exact ⟨k * n.length, j, rfl, rfl, _, h.at_ k j _ _ (List.getElem?_eq_getElem hk) (List.getElem?_eq_getElem hjn) hj⟩

theorem GInv.rel2 {k j : Nat} {x y : α} (e1 : R[k]? = some x) (e2 : n[j]? = some y) (e3 : gone[j]? = some false) : relAt rels ((k * n.length : Nat) : Int) (j : Int) = rel x y := relAt_of (h.at_ k j x y e1 e2 e3)

theorem GInv.tells : relG rels rows (colsI gone) = relM rel R (keepC n gone) := by
  have hE : (rows.isEmpty && (colsI gone).isEmpty) = (R.isEmpty && (keepC n gone).isEmpty) := by
    have h1 : rows.isEmpty = R.isEmpty := by
      rw [Bool.eq_iff_iff, List.isEmpty_iff_length_eq_zero, List.isEmpty_iff_length_eq_zero, h.wl]
    have h2 : (colsI gone).isEmpty = (keepC n gone).isEmpty := by
      rw [Bool.eq_iff_iff, List.isEmpty_iff, List.isEmpty_iff, List.eq_nil_iff_forall_not_mem, List.eq_nil_iff_forall_not_mem]
      constructor
      · intro hh y hy
        obtain ⟨j, e1, e2⟩ := keepC_mem.1 hy
        exact hh (j : Int) (colsI_mem.2 ⟨j, rfl, e2⟩)
      · intro hh x hx
        obtain ⟨j, rfl, e2⟩ := colsI_mem.1 hx
        have hjn : j < n.length := by rw [← h.gl]; exact (List.getElem?_eq_some_iff.1 e2).1
        exact hh _ (keepC_mem.2 ⟨j, List.getElem?_eq_getElem hjn, e2⟩)
    rw [h1, h2]
  have hA : ((colsI gone).all fun j => rows.any fun i => relAt rels i j == 3) = ((keepC n gone).all fun y => R.any fun x => rel x y == 3) := by
    rw [Bool.eq_iff_iff]
    simp only [List.all_eq_true, List.any_eq_true, beq_iff_eq]
    constructor
    · intro hh y hy
      obtain ⟨j, e1, e2⟩ := keepC_mem.1 hy
      obtain ⟨x, hx, e3⟩ := hh (j : Int) (colsI_mem.2 ⟨j, rfl, e2⟩)
      obtain ⟨k, hk, rfl⟩ := h.row.1 hx
      rw [h.rel2 (List.getElem?_eq_getElem hk) e1 e2] at e3
      exact ⟨_, List.getElem_mem hk, e3⟩
    · intro hh x hx
      obtain ⟨j, rfl, e2⟩ := colsI_mem.1 hx
      have hjn : j < n.length := by rw [← h.gl]; exact (List.getElem?_eq_some_iff.1 e2).1
      obtain ⟨z, hz, e3⟩ := hh _ (keepC_mem.2 ⟨j, List.getElem?_eq_getElem hjn, e2⟩)
      obtain ⟨k, hk⟩ := List.getElem?_of_mem hz
      exact ⟨_, h.row.2 ⟨k, (List.getElem?_eq_some_iff.1 hk).1, rfl⟩, by rw [h.rel2 hk (List.getElem?_eq_getElem hjn) e2]; exact e3⟩
  have hB : (rows.all fun i => (colsI gone).any fun j => trnI (relAt rels i j) == 3) = (R.all fun x => (keepC n gone).any fun y => rel x y == 1) := by
    have ht : ∀ r : Int, trnI r = 3 ↔ r = 1 := fun r => by
      unfold trnI
      constructor
      · intro e
        split at e
        · assumption
        · split at e
          · cases e
          · rename_i h1 h2; exact absurd e h2
      · intro e; rw [if_pos e]
    rw [Bool.eq_iff_iff]
    simp only [List.all_eq_true, List.any_eq_true, beq_iff_eq]
    constructor
    · intro hh z hz
      obtain ⟨k, hk⟩ := List.getElem?_of_mem hz
      obtain ⟨x, hx, e3⟩ := hh _ (h.row.2 ⟨k, (List.getElem?_eq_some_iff.1 hk).1, rfl⟩)
      obtain ⟨j, rfl, e2⟩ := colsI_mem.1 hx
      have hjn : j < n.length := by rw [← h.gl]; exact (List.getElem?_eq_some_iff.1 e2).1
      rw [ht, h.rel2 hk (List.getElem?_eq_getElem hjn) e2] at e3
      exact ⟨_, keepC_mem.2 ⟨j, List.getElem?_eq_getElem hjn, e2⟩, e3⟩
    · intro hh x hx
      obtain ⟨k, hk, rfl⟩ := h.row.1 hx
      obtain ⟨y, hy, e3⟩ := hh _ (List.getElem_mem hk)
      obtain ⟨j, e1, e2⟩ := keepC_mem.1 hy
      exact ⟨(j : Int), colsI_mem.2 ⟨j, rfl, e2⟩, by rw [ht, h.rel2 (List.getElem?_eq_getElem hk) e1 e2]; exact e3⟩
  unfold relG relM
  rw [hE, hA, hB]

end

theorem GInv.done {m n : List α} {R : List α} {rels rows : List Int} {gone : List Bool} (h : GInv rel m n m.length R rels rows gone) : relG rels rows (colsI gone) = mulR rel m n := by
  have h1 := h.lf
  rw [List.drop_length, leftM, List.append_nil] at h1
  unfold mulR
  rw [h1, h.tells]

end

end Go.Proofs.Ytgjmodclgdkodaa

/- order: members in memory, for each of the three types of members; what a column's function value answers. -/

namespace Go.Proofs.Ytgjmodclgdkodaa

open Go.RowKit Go.Shelf
set_option maxRecDepth 100000

/-- A term as a value, in memory: in N's blocks. -/
def RpT (N : Nat → Prop) (w : World) (t : Tm) (v : Value) : Prop := ∃ A c, v = .agg #[.int .i64 t.fn, .slice A t.args.length c] ∧ I64 t.fn ∧ ArgsK w N A c t.args ∧ t.size ≤ 536870912

/-- A row of terms. -/
structure RowTm (N : Nat → Prop) (w : World) (A : Option Addr) (m : List Tm) : Prop where
  len : m.length ≤ 1048576
  ad : 0 < m.length → ∃ b off, A = some ⟨b, off, none⟩ ∧ N b ∧ ∀ (i : Nat) (t : Tm), m[i]? = some t → ∃ A1 c1, w.cell? ⟨b, off + i * 2, none⟩ = some (.int .i64 t.fn) ∧ w.cell? ⟨b, off + i * 2 + 1, none⟩ = some (.slice A1 t.args.length c1) ∧ I64 t.fn ∧ ArgsK w N A1 c1 t.args ∧ t.size ≤ 536870912

/-- A row of slices that hold members. -/
structure RowV {α : Type} (Rp : (Nat → Prop) → World → List α → Value → Prop) (N : Nat → Prop) (w : World) (A : Option Addr) (m : List (List α)) : Prop where
  len : m.length ≤ 1048576
  ad : 0 < m.length → ∃ b off, A = some ⟨b, off, none⟩ ∧ N b ∧ ∀ (i : Nat) (x : List α), m[i]? = some x → ∃ A1 c1, w.cell? ⟨b, off + i, none⟩ = some (.slice A1 x.length c1) ∧ Rp N w x (.slice A1 x.length c1)

def Rp1 (N : Nat → Prop) (w : World) (m : List Tm) (v : Value) : Prop := ∃ A c, v = .slice A m.length c ∧ RowTm N w A m

def Rp2 (N : Nat → Prop) (w : World) (m : List (List Tm)) (v : Value) : Prop := ∃ A c, v = .slice A m.length c ∧ RowV Rp1 N w A m

def Rp3 (N : Nat → Prop) (w : World) (m : List (List (List Tm))) (v : Value) : Prop := ∃ A c, v = .slice A m.length c ∧ RowV Rp2 N w A m

theorem RowTm.to {N M : Nat → Prop} {w w' : World} {A : Option Addr} {m : List Tm} (h : RowTm N w A m) (hk : ∀ g, N g → w'.heap[g]? = w.heap[g]?) (hm : ∀ g, N g → M g) : RowTm M w' A m :=
  ⟨h.len, fun hp => by
    obtain ⟨b, off, hA, hb, hc⟩ := h.ad hp
    refine ⟨b, off, hA, hm b hb, fun i t e => ?_⟩
    obtain ⟨A1, c1, h0, h1, h2, h3, h4⟩ := hc i t e
    exact ⟨A1, c1, (cell_of_heap (hk b hb)).trans h0, (cell_of_heap (hk b hb)).trans h1, h2, (h3.keep hk).wide hm, h4⟩⟩

theorem RpT.to {N M : Nat → Prop} {w w' : World} {t : Tm} {v : Value} (h : RpT N w t v) (hk : ∀ g, N g → w'.heap[g]? = w.heap[g]?) (hm : ∀ g, N g → M g) : RpT M w' t v := by
  obtain ⟨A, c, rfl, h1, h2, h3⟩ := h
  exact ⟨A, c, rfl, h1, (h2.keep hk).wide hm, h3⟩

theorem Rp1.to {N M : Nat → Prop} {w w' : World} {m : List Tm} {v : Value} (h : Rp1 N w m v) (hk : ∀ g, N g → w'.heap[g]? = w.heap[g]?) (hm : ∀ g, N g → M g) : Rp1 M w' m v := by
  obtain ⟨A, c, rfl, h⟩ := h
  exact ⟨A, c, rfl, h.to hk hm⟩

theorem RowV.to {α : Type} {Rp : (Nat → Prop) → World → List α → Value → Prop} (hR : ∀ {N M : Nat → Prop} {w w' : World} {x : List α} {v : Value}, Rp N w x v → (∀ g, N g → w'.heap[g]? = w.heap[g]?) → (∀ g, N g → M g) → Rp M w' x v)
    {N M : Nat → Prop} {w w' : World} {A : Option Addr} {m : List (List α)} (h : RowV Rp N w A m) (hk : ∀ g, N g → w'.heap[g]? = w.heap[g]?) (hm : ∀ g, N g → M g) : RowV Rp M w' A m :=
  ⟨h.len, fun hp => by
    obtain ⟨b, off, hA, hb, hc⟩ := h.ad hp
    refine ⟨b, off, hA, hm b hb, fun i x e => ?_⟩
    obtain ⟨A1, c1, h0, h1⟩ := hc i x e
    exact ⟨A1, c1, (cell_of_heap (hk b hb)).trans h0, hR h1 hk hm⟩⟩

theorem Rp2.to {N M : Nat → Prop} {w w' : World} {m : List (List Tm)} {v : Value} (h : Rp2 N w m v) (hk : ∀ g, N g → w'.heap[g]? = w.heap[g]?) (hm : ∀ g, N g → M g) : Rp2 M w' m v := by
  obtain ⟨A, c, rfl, h⟩ := h
  exact ⟨A, c, rfl, RowV.to (Rp := Rp1) Rp1.to h hk hm⟩

theorem Rp3.to {N M : Nat → Prop} {w w' : World} {m : List (List (List Tm))} {v : Value} (h : Rp3 N w m v) (hk : ∀ g, N g → w'.heap[g]? = w.heap[g]?) (hm : ∀ g, N g → M g) : Rp3 M w' m v := by
  obtain ⟨A, c, rfl, h⟩ := h
  exact ⟨A, c, rfl, RowV.to (Rp := Rp2) Rp2.to h hk hm⟩

theorem RowTm.get {N : Nat → Prop} {w : World} {A : Option Addr} {m : List Tm} (h : RowTm N w A m) {i : Nat} {t : Tm} (e : m[i]? = some t) : ∃ b off A1 c1, A = some ⟨b, off, none⟩ ∧ N b ∧ w.cell? ⟨b, off + i * 2, none⟩ = some (.int .i64 t.fn) ∧ w.cell? ⟨b, off + i * 2 + 1, none⟩ = some (.slice A1 t.args.length c1) ∧ RpT N w t (.agg #[.int .i64 t.fn, .slice A1 t.args.length c1]) := by
  have hlt := (List.getElem?_eq_some_iff.1 e).1
  obtain ⟨b, off, hA, hb, hc⟩ := h.ad (by omega)
  obtain ⟨A1, c1, h0, h1, h2, h3, h4⟩ := hc i t e
  exact ⟨b, off, A1, c1, hA, hb, h0, h1, A1, c1, rfl, h2, h3, h4⟩

theorem RowV.get {α : Type} {Rp : (Nat → Prop) → World → List α → Value → Prop} {N : Nat → Prop} {w : World} {A : Option Addr} {m : List (List α)} (h : RowV Rp N w A m) {i : Nat} {x : List α} (e : m[i]? = some x) : ∃ b off A1 c1, A = some ⟨b, off, none⟩ ∧ N b ∧ w.cell? ⟨b, off + i, none⟩ = some (.slice A1 x.length c1) ∧ Rp N w x (.slice A1 x.length c1) := by
  have hlt := (List.getElem?_eq_some_iff.1 e).1
  obtain ⟨b, off, hA, hb, hc⟩ := h.ad (by omega)
  obtain ⟨A1, c1, h0, h1⟩ := hc i x e
  exact ⟨b, off, A1, c1, hA, hb, h0, h1⟩

/-- A function value that is asked how two members stand. -/
structure CmpC {α : Type} (Rp : (Nat → Prop) → World → α → Value → Prop) (rel : α → α → Int) (k : FuncId) (fs cv : Array Value) (n0 : Nat) (W : World) : Prop where
  ent : ∀ (args : Array Value) (w : World), (callFunc k args).run Try.prog w = .ok (.enter k args) w
  call : ∀ (x y : α) (vx vy : Value) (w : World), Below n0 W w → Rp (· < w.heap.size) w x vx → Rp (· < w.heap.size) w y vy → Calls Try.prog k (fs ++ (#[vx, vy] ++ cv)) w fun e w' => e = .returned (.int .i64 (rel x y)) ∧ Below w.heap.size w w'

theorem CmpC.later {α : Type} {Rp : (Nat → Prop) → World → α → Value → Prop} {rel : α → α → Int} {k : FuncId} {fs cv : Array Value} {n0 : Nat} {W w : World} (h : CmpC Rp rel k fs cv n0 W) (hb : Below n0 W w) : CmpC Rp rel k fs cv n0 w := ⟨h.ent, fun x y vx vy w1 hb1 => h.call x y vx vy w1 (hb.trans hb1)⟩

section

variable {k : FuncId} {fs cv : Array Value} {n0 : Nat}

theorem oCol1_any {rel : Tm → Tm → Int} {W : World} (hC : CmpC RpT rel k fs cv n0 W) {bc ba bn j : Nat} {a y : Tm} {n : List (Tm)} {A B : Option Addr} {c cb : Nat} (w : World) (hw : Below n0 W w) (hn0 : n0 ≤ w.heap.size) (h0 : w.cell? ⟨bc, 0, none⟩ = some (.func (.func k) fs cv)) (h1 : w.cell? ⟨ba, 0, none⟩ = some (.int .i64 a.fn)) (h1b : w.cell? ⟨ba, 1, none⟩ = some (.slice A a.args.length c)) (h2 : w.cell? ⟨bn, 0, none⟩ = some (.slice B n.length cb))
    (ha : RpT (· < w.heap.size) w a (.agg #[.int .i64 a.fn, .slice A a.args.length c])) (hn : RowTm (· < w.heap.size) w B n) (hj : n[j]? = some y) :
    Calls Try.prog 59 #[.int .i64 (j : Int), .pointer (some ⟨bc, 0, none⟩), .pointer (some ⟨ba, 0, none⟩), .pointer (some ⟨bn, 0, none⟩)] w fun e w' => e = .returned (.int .i64 (rel a y)) ∧ Below w.heap.size w w' := by
  have hjl := (List.getElem?_eq_some_iff.1 hj).1
  have hnl := hn.len
  obtain ⟨b, off, A1, c1, rfl, hb, e0, e1, hy⟩ := hn.get hj
  have hbc := World.block_lt_of_cell? w _ h0
  have hba := World.block_lt_of_cell? w _ h1
  have hbn := World.block_lt_of_cell? w _ h2
  have hent := hC.ent
  have H := Lib.hid fun x : Later w.heap.size w => hC.call a y (.agg #[.int .i64 a.fn, .slice A a.args.length c]) (.agg #[.int .i64 y.fn, .slice A1 y.args.length c1]) x.w (hw.trans (x.h.mono hn0)) (ha.to (fun g e => x.h.block g e) fun g e => Nat.lt_of_lt_of_le e x.h.size) (hy.to (fun g e => x.h.block g e) fun g e => Nat.lt_of_lt_of_le e x.h.size)
  have m1 : ∀ x : Later w.heap.size w, x.w.cell? ⟨bc, 0, none⟩ = some (.func (.func k) fs cv) := fun x => cell_on x.h hbc h0
  have m2 : ∀ x : Later w.heap.size w, x.w.cell? ⟨bn, 0, none⟩ = some (.slice (some ⟨b, off, none⟩) n.length cb) := fun x => cell_on x.h hbn h2
  have m3 : ∀ x : Later w.heap.size w, x.w.cell? ⟨ba, 0, none⟩ = some (.int .i64 a.fn) := fun x => cell_on x.h hba h1
  have m4 : ∀ x : Later w.heap.size w, x.w.cell? ⟨ba, 1, none⟩ = some (.slice A a.args.length c) := fun x => cell_on x.h hba h1b
  have m5 : ∀ x : Later w.heap.size w, x.w.cell? ⟨b, off + j * 2, none⟩ = some (.int .i64 y.fn) := fun x => cell_on x.h hb e0
  have m6 : ∀ x : Later w.heap.size w, x.w.cell? ⟨b, off + j * 2 + 1, none⟩ = some (.slice A1 y.args.length c1) := fun x => cell_on x.h hb e1
  clear hC hw hn0 h0 h2 ha hn hj hy h1 h1b e0 e1
  go_enter Try.func59, Try.ntmps59
  go_upto_region 1 with fail
  refine wp_region_later w.heap.size w (by kernel_rfl) (by kernel_rfl) (bl_drewN (Below.refl _ _) 1) ?_
  repeat (go_big_quiet_step (first
    | (with_reducible refine calls_later _ (Nat.le_refl _) (H.out _))
    | fail))
  refine wpQuiet_nil ?_
  rintro _ ⟨z, rfl⟩
  clear m1 m2 m3 m4 m5 m6
  go_wp2
  go_ret
  exact ⟨rfl, z.h⟩

theorem oCol2_any {rel : List Tm → List Tm → Int} {W : World} (hC : CmpC Rp1 rel k fs cv n0 W) {bc ba bn j : Nat} {a y : List Tm} {n : List (List Tm)} {A B : Option Addr} {c cb : Nat} (w : World) (hw : Below n0 W w) (hn0 : n0 ≤ w.heap.size) (h0 : w.cell? ⟨bc, 0, none⟩ = some (.func (.func k) fs cv)) (h1 : w.cell? ⟨ba, 0, none⟩ = some (.slice A a.length c)) (h2 : w.cell? ⟨bn, 0, none⟩ = some (.slice B n.length cb))
    (ha : Rp1 (· < w.heap.size) w a (.slice A a.length c)) (hn : RowV Rp1 (· < w.heap.size) w B n) (hj : n[j]? = some y) :
    Calls Try.prog 57 #[.int .i64 (j : Int), .pointer (some ⟨bc, 0, none⟩), .pointer (some ⟨ba, 0, none⟩), .pointer (some ⟨bn, 0, none⟩)] w fun e w' => e = .returned (.int .i64 (rel a y)) ∧ Below w.heap.size w w' := by
  have hjl := (List.getElem?_eq_some_iff.1 hj).1
  have hnl := hn.len
  obtain ⟨b, off, A1, c1, rfl, hb, e0, hy⟩ := hn.get hj
  have hbc := World.block_lt_of_cell? w _ h0
  have hba := World.block_lt_of_cell? w _ h1
  have hbn := World.block_lt_of_cell? w _ h2
  have hent := hC.ent
  have H := Lib.hid fun x : Later w.heap.size w => hC.call a y (.slice A a.length c) (.slice A1 y.length c1) x.w (hw.trans (x.h.mono hn0)) (ha.to (fun g e => x.h.block g e) fun g e => Nat.lt_of_lt_of_le e x.h.size) (hy.to (fun g e => x.h.block g e) fun g e => Nat.lt_of_lt_of_le e x.h.size)
  have m1 : ∀ x : Later w.heap.size w, x.w.cell? ⟨bc, 0, none⟩ = some (.func (.func k) fs cv) := fun x => cell_on x.h hbc h0
  have m2 : ∀ x : Later w.heap.size w, x.w.cell? ⟨bn, 0, none⟩ = some (.slice (some ⟨b, off, none⟩) n.length cb) := fun x => cell_on x.h hbn h2
  have m3 : ∀ x : Later w.heap.size w, x.w.cell? ⟨ba, 0, none⟩ = some (.slice A a.length c) := fun x => cell_on x.h hba h1
  have m5 : ∀ x : Later w.heap.size w, x.w.cell? ⟨b, off + j, none⟩ = some (.slice A1 y.length c1) := fun x => cell_on x.h hb e0
  clear hC hw hn0 h0 h2 ha hn hj hy h1 e0
  go_enter Try.func57, Try.ntmps57
  go_upto_region 1 with fail
  refine wp_region_later w.heap.size w (by kernel_rfl) (by kernel_rfl) (bl_drewN (Below.refl _ _) 1) ?_
  repeat (go_big_quiet_step (first
    | (with_reducible refine calls_later _ (Nat.le_refl _) (H.out _))
    | fail))
  refine wpQuiet_nil ?_
  rintro _ ⟨z, rfl⟩
  clear m1 m2 m3 m5
  go_wp2
  go_ret
  exact ⟨rfl, z.h⟩

theorem oCol3_any {rel : List (List Tm) → List (List Tm) → Int} {W : World} (hC : CmpC Rp2 rel k fs cv n0 W) {bc ba bn j : Nat} {a y : List (List Tm)} {n : List (List (List Tm))} {A B : Option Addr} {c cb : Nat} (w : World) (hw : Below n0 W w) (hn0 : n0 ≤ w.heap.size) (h0 : w.cell? ⟨bc, 0, none⟩ = some (.func (.func k) fs cv)) (h1 : w.cell? ⟨ba, 0, none⟩ = some (.slice A a.length c)) (h2 : w.cell? ⟨bn, 0, none⟩ = some (.slice B n.length cb))
    (ha : Rp2 (· < w.heap.size) w a (.slice A a.length c)) (hn : RowV Rp2 (· < w.heap.size) w B n) (hj : n[j]? = some y) :
    Calls Try.prog 36 #[.int .i64 (j : Int), .pointer (some ⟨bc, 0, none⟩), .pointer (some ⟨ba, 0, none⟩), .pointer (some ⟨bn, 0, none⟩)] w fun e w' => e = .returned (.int .i64 (rel a y)) ∧ Below w.heap.size w w' := by
  have hjl := (List.getElem?_eq_some_iff.1 hj).1
  have hnl := hn.len
  obtain ⟨b, off, A1, c1, rfl, hb, e0, hy⟩ := hn.get hj
  have hbc := World.block_lt_of_cell? w _ h0
  have hba := World.block_lt_of_cell? w _ h1
  have hbn := World.block_lt_of_cell? w _ h2
  have hent := hC.ent
  have H := Lib.hid fun x : Later w.heap.size w => hC.call a y (.slice A a.length c) (.slice A1 y.length c1) x.w (hw.trans (x.h.mono hn0)) (ha.to (fun g e => x.h.block g e) fun g e => Nat.lt_of_lt_of_le e x.h.size) (hy.to (fun g e => x.h.block g e) fun g e => Nat.lt_of_lt_of_le e x.h.size)
  have m1 : ∀ x : Later w.heap.size w, x.w.cell? ⟨bc, 0, none⟩ = some (.func (.func k) fs cv) := fun x => cell_on x.h hbc h0
  have m2 : ∀ x : Later w.heap.size w, x.w.cell? ⟨bn, 0, none⟩ = some (.slice (some ⟨b, off, none⟩) n.length cb) := fun x => cell_on x.h hbn h2
  have m3 : ∀ x : Later w.heap.size w, x.w.cell? ⟨ba, 0, none⟩ = some (.slice A a.length c) := fun x => cell_on x.h hba h1
  have m5 : ∀ x : Later w.heap.size w, x.w.cell? ⟨b, off + j, none⟩ = some (.slice A1 y.length c1) := fun x => cell_on x.h hb e0
  clear hC hw hn0 h0 h2 ha hn hj hy h1 e0
  go_enter Try.func36, Try.ntmps36
  go_upto_region 1 with fail
  refine wp_region_later w.heap.size w (by kernel_rfl) (by kernel_rfl) (bl_drewN (Below.refl _ _) 1) ?_
  repeat (go_big_quiet_step (first
    | (with_reducible refine calls_later _ (Nat.le_refl _) (H.out _))
    | fail))
  refine wpQuiet_nil ?_
  rintro _ ⟨z, rfl⟩
  clear m1 m2 m3 m5
  go_wp2
  go_ret
  exact ⟨rfl, z.h⟩

end

end Go.Proofs.Ytgjmodclgdkodaa

/- order: multisets of Tm, walked. -/

namespace Go.Proofs.Ytgjmodclgdkodaa

open Go.RowKit Go.Shelf
set_option maxRecDepth 100000

@[local go_sem] theorem run_store_funcJ1 {P : Program} {w : World} {a : Addr} {m : Mode} (f : Fn) (ts cs : Array Value) : (store a (.func f ts cs) m).run P w = stored P w a (.func f ts cs) m := run_store P w a _ m rfl

theorem info_bool9 : (Try.prog.info? 4).map (fun i => (i.zero, i.size, i.bytes)) = some (some (.bool false), 1, 1) := by kernel_rfl

/-- A grid that is new. -/
theorem grd_new (W1 : World) (n : Nat) (hn : n ≤ 1048576) :
    GrdW ((W1.alloc (.cells (madeCells #[.bool false] n) 4)).alloc (.cells #[.slice none 0 0, .slice none 0 0, .slice (some ⟨W1.heap.size, 0, none⟩) n n] 78)) (fun g => W1.heap.size ≤ g) (W1.heap.size + 1) (.slice none 0 0) (.slice none 0 0) (.slice (some ⟨W1.heap.size, 0, none⟩) n n) [] [] (List.replicate n false) ∧
    Below W1.heap.size W1 ((W1.alloc (.cells (madeCells #[.bool false] n) 4)).alloc (.cells #[.slice none 0 0, .slice none 0 0, .slice (some ⟨W1.heap.size, 0, none⟩) n n] 78)) := by
  obtain ⟨h1, h2⟩ := heap2 W1 (.cells (madeCells #[.bool false] n) 4) (.cells #[.slice none 0 0, .slice none 0 0, .slice (some ⟨W1.heap.size, 0, none⟩) n n] 78)
  refine ⟨⟨h2, ⟨by simp, .inl ⟨rfl, rfl⟩⟩, ⟨by simp, .inl ⟨rfl, rfl⟩⟩, ⟨by simp, .inr ⟨W1.heap.size, n, madeCells #[.bool false] n, by simp, Nat.zero_le _, h1, by simp, by unfold maxLen; omega, by simp [madeCells], ?_⟩⟩, fun g hg => ?_⟩, ((Below.refl _ _).alloc (Nat.le_refl _) _).alloc (by simp) _⟩
  · rw [List.length_replicate, Nat.mul_one, List.map_replicate]
    refine List.ext_getElem? fun i => ?_
    by_cases hi : i < n
    · simp [madeCells, hi, Nat.mod_one]
    · simp [madeCells, hi]
  · rcases hg with rfl | e | e | e
    · exact Nat.le_succ _
    · cases e
    · cases e
    · simp [Value.ownBlock] at e; show W1.heap.size ≤ g; omega

theorem GInv.bd {α : Type} {rel : α → α → Int} {m n : List α} {i : Nat} {R : List α} {rels rows : List Int} {gone : List Bool} (h : GInv rel m n i R rels rows gone) (hm : m.length ≤ 1048576) (hn : n.length ≤ 1048576) (hi : i ≤ m.length) :
    rels.length ≤ 1099511627776 ∧ rows.length ≤ 1099511627776 ∧ (∀ x ∈ rows, I64 x) ∧ (i < m.length → rels.length + gone.length ≤ 1099511627776) := by
  have h1 : R.length * n.length ≤ 1048576 * 1048576 := Nat.mul_le_mul (by have := h.ri; omega) hn
  have hr := h.rl
  have hw := h.wl
  have hri := h.ri
  refine ⟨by omega, by omega, fun x hx => ?_, fun hlt => ?_⟩
  · obtain ⟨k, hk, rfl⟩ := h.row.1 hx
    have h2 : k * n.length ≤ 1048576 * 1048576 := Nat.mul_le_mul (by omega) hn
    exact ⟨by omega, by omega⟩
  · have h2 : (R.length + 1) * n.length ≤ 1048576 * 1048576 := Nat.mul_le_mul (by omega) hn
    rw [Nat.add_mul, Nat.one_mul] at h2
    rw [hr, h.gl]; omega

section

variable {k : FuncId} {fs cv : Array Value} {n0 : Nat}

set_option maxHeartbeats 4000000 in
theorem oMulF1_any {rel : Tm → Tm → Int} {W : World} (hC : CmpC RpT rel k fs cv n0 W) (h4 : ∀ x y, In4 (rel x y)) {bc : Nat} {A B : Option Addr} {ca cb : Nat} (m n : List (Tm)) (w : World) (hw : Below n0 W w) (hn0 : n0 ≤ w.heap.size) (h0 : w.cell? ⟨bc, 0, none⟩ = some (.func (.func k) fs cv)) (hm : RowTm (· < w.heap.size) w A m) (hn : RowTm (· < w.heap.size) w B n) :
    Calls Try.prog 58 #[.slice A m.length ca, .slice B n.length cb, .pointer (some ⟨bc, 0, none⟩)] w fun e w' => e = .returned (.int .i64 (mulR rel m n)) ∧ Below w.heap.size w w' := by
  have hml := hm.len
  have hnl := hn.len
  have q0 := heap_alloc_new w (.cells #[.slice B n.length cb] 37)
  obtain ⟨W1, hW⟩ : ∃ W1, w.alloc (.cells #[.slice B n.length cb] 37) = W1 := ⟨_, rfl⟩
  have hB : Below w.heap.size w W1 := by rw [← hW]; exact (Below.refl _ _).alloc (Nat.le_refl _) _
  have hWz : W1.heap.size = w.heap.size + 1 := by rw [← hW]; simp
  rw [hW] at q0
  have HWz := Lib.hid hWz
  have hbc := World.block_lt_of_cell? w _ h0
  obtain ⟨x0, _⟩ := cells_one q0
  have hent := hC.ent
  have HW := Lib.hid hW
  have hbn : w.heap.size < W1.heap.size := by omega
  by_cases h11 : m.length = 1 ∧ n.length = 1
  · have g0 : ((m.length : Int) == 1) = true := by rw [h11.1]; rfl
    have g1 : ((n.length : Int) == 1) = true := by rw [h11.2]; rfl
    have hm0' : 0 < m.length := by omega
    have hn0'' : 0 < n.length := by omega
    obtain ⟨a, hm0⟩ : ∃ a, m[0]? = some a := ⟨_, List.getElem?_eq_getElem hm0'⟩
    obtain ⟨y, hn0'⟩ : ∃ y, n[0]? = some y := ⟨_, List.getElem?_eq_getElem hn0''⟩
    obtain ⟨b, off, A1, c1, rfl, hb, e0, e1, hav⟩ := hm.get hm0
    obtain ⟨b', off', A2, c2, rfl, hb', e2, e3, hyv⟩ := hn.get hn0'
    rw [Nat.zero_mul, Nat.add_zero] at e0 e1 e2 e3
    have hres : Hid (mulR rel m n = rel a y) := Lib.hid (by
      have e1 : m = [a] := by
        match m, h11.1, hm0 with
        | [x], _, e => simp at e; rw [e]
      have e2 : n = [y] := by
        match n, h11.2, hn0' with
        | [x], _, e => simp at e; rw [e]
      rw [e1, e2, mulR_one (h4 a y)])
    have H := Lib.hid fun x : Later W1.heap.size W1 => hC.call a y (.agg #[.int .i64 a.fn, .slice A1 a.args.length c1]) (.agg #[.int .i64 y.fn, .slice A2 y.args.length c2]) x.w (hw.trans ((hB.trans (x.h.mono hB.size)).mono hn0)) (hav.to (fun g e => (hB.trans (x.h.mono hB.size)).block g e) fun g e => Nat.lt_of_lt_of_le e (hB.trans (x.h.mono hB.size)).size) (hyv.to (fun g e => (hB.trans (x.h.mono hB.size)).block g e) fun g e => Nat.lt_of_lt_of_le e (hB.trans (x.h.mono hB.size)).size)
    have m0 : ∀ x : Later W1.heap.size W1, x.w.cell? ⟨bc, 0, none⟩ = some (.func (.func k) fs cv) := fun x => cell_on (hB.trans (x.h.mono hB.size)) hbc h0
    have m1 : ∀ x : Later W1.heap.size W1, x.w.cell? ⟨w.heap.size, 0, none⟩ = some (.slice (some ⟨b', off', none⟩) n.length cb) := fun x => cell_on x.h hbn x0
    have m2 : ∀ x : Later W1.heap.size W1, x.w.cell? ⟨b, off, none⟩ = some (.int .i64 a.fn) := fun x => cell_on (hB.trans (x.h.mono hB.size)) hb e0
    have m3 : ∀ x : Later W1.heap.size W1, x.w.cell? ⟨b, off + 1, none⟩ = some (.slice A1 a.args.length c1) := fun x => cell_on (hB.trans (x.h.mono hB.size)) hb e1
    have m4 : ∀ x : Later W1.heap.size W1, x.w.cell? ⟨b', off', none⟩ = some (.int .i64 y.fn) := fun x => cell_on (hB.trans (x.h.mono hB.size)) hb' e2
    have m5 : ∀ x : Later W1.heap.size W1, x.w.cell? ⟨b', off' + 1, none⟩ = some (.slice A2 y.args.length c2) := fun x => cell_on (hB.trans (x.h.mono hB.size)) hb' e3
    clear hC hw hn0 h0 hm hn hm0 hn0' hav hyv hW q0 hWz h11 e0 e1 e2 e3
    go_enter Try.func58, Try.ntmps58
    go_upto_region 1 with fail
    rw [HW.out]
    go_upto_region 2 with fail
    refine wp_region_later W1.heap.size W1 (by kernel_rfl) (by kernel_rfl) (bl_drewN (Below.refl _ _) 1) ?_
    repeat (go_big_quiet_step (first
      | (with_reducible refine calls_later _ (Nat.le_refl _) (H.out _))
      | fail))
    refine wpQuiet_nil ?_
    rintro _ ⟨z, rfl⟩
    clear m0 m1 m2 m3 m4 m5
    go_wp2
    go_ret
    exact ⟨ret_int hres.out.symm, hB.trans (z.h.mono hB.size)⟩
  · obtain ⟨i0, hi, hz0, hz1, hz2⟩ := info_parts info_bool9
    have hmk : ∀ w : World, (Instr.makeSlice 75 (.int .i64 (n.length : Int)) (.int .i64 (n.length : Int))).run Try.prog w = .ok (.slice (some ⟨w.heap.size, 0, none⟩) n.length n.length) (w.alloc (.cells (madeCells #[.bool false] n.length) 4)) := fun w => run_make_row _ _ i0 _ Try.underlying75 hi hz0 hz1 rfl _ _ n.length (by rw [hz2]; omega) (by omega) w
    obtain ⟨Wg, hWg⟩ : ∃ Wg, (W1.alloc (.cells (madeCells #[.bool false] n.length) 4)).alloc (.cells #[.slice none 0 0, .slice none 0 0, .slice (some ⟨W1.heap.size, 0, none⟩) n.length n.length] 78) = Wg := ⟨_, rfl⟩
    have HG0 : Hid (GrdW Wg (fun g => W1.heap.size ≤ g) (W1.heap.size + 1) (.slice none 0 0) (.slice none 0 0) (.slice (some ⟨W1.heap.size, 0, none⟩) n.length n.length) [] [] (List.replicate n.length false) ∧ Below W1.heap.size W1 Wg) := Lib.hid (by rw [← hWg]; exact grd_new W1 n.length (by omega))
    have HWg := Lib.hid hWg
    have Hm := Lib.hid hm
    have Hn := Lib.hid hn
    have HC := Lib.hid hC
    have Hw := Lib.hid hw
    have H0 := Lib.hid h0
    have Hq0 := Lib.hid q0
    have H4 := Lib.hid h4
    have HB := Lib.hid hB
    have hcase : (((m.length : Int) == 1) = true ∧ ((n.length : Int) == 1) = false) ∨ ((m.length : Int) == 1) = false := by
      by_cases e : m.length = 1
      · exact .inl ⟨by rw [e]; rfl, by have : ¬ n.length = 1 := fun e2 => h11 ⟨e, e2⟩; simpa using fun e3 : (n.length : Int) = 1 => this (by omega)⟩
      · exact .inr (by simpa using fun e3 : (m.length : Int) = 1 => e (by omega))
    clear hC hw h0 hm hn hW q0 hWz hWg h11 h4 hB hi hz0 hz1 hz2
    rcases hcase with ⟨g0, g1⟩ | g0
    all_goals (
      go_enter Try.func58, Try.ntmps58
      go_upto_region 1 with fail
      rw [HW.out]
      go_upto_region 4 with fail
      rw [HWg.out]
      go_wp2
      go_loopw [31] (fun i wr => ∃ (j : Nat) (v1 v2 : Value), j ≤ m.length ∧ i = .int .i64 (j : Int) ∧ Hid (∃ R rels rows gone, GInv rel m n j R rels rows gone ∧ GrdW wr (fun g => W1.heap.size ≤ g) (W1.heap.size + 1) v1 v2 (.slice (some ⟨W1.heap.size, 0, none⟩) n.length n.length) rels rows gone ∧ Below W1.heap.size W1 wr)) (fun i _ => m.length - (intOf i).toNat)
      case atStart => exact ⟨0, _, _, Nat.zero_le _, rfl, Lib.hid ⟨[], [], [], _, GInv.start rel m n, HG0.out.1, HG0.out.2⟩⟩
      case round =>
        obtain ⟨j, v1, v2, hj, rfl, HR⟩ := hrel
        by_cases hlt : j < m.length
        · obtain ⟨a, hx⟩ : ∃ x, m[j]? = some x := ⟨_, List.getElem?_eq_getElem hlt⟩
          obtain ⟨R, rels, rows, gone, hI, hG, hBr⟩ := HR.out
          have HI := Lib.hid hI
          have HG := Lib.hid hG
          have hBw := HB.out.trans (hBr.mono HB.out.size)
          obtain ⟨b, off, A1, c1, rfl, hb, e0, e1, hav⟩ := Hm.out.get hx
          have c0 := cell_on hBw hb e0
          have c1e := cell_on hBw hb e1
          have hwr1 : IntKind.i64.wrap ((j : Int) + 1) = (j : Int) + 1 := by rw [IntKind.wrap_i64]; omega
          have p0 := heap_alloc_new wr (.cells #[.int .i64 a.fn, .slice A1 a.args.length c1] 39)
          have hADD : Hid (Calls Try.prog 35 #[.pointer (some ⟨W1.heap.size + 1, 0, none⟩), .func (.func 59) #[] #[.pointer (some ⟨bc, 0, none⟩), .pointer (some ⟨wr.heap.size, 0, none⟩), .pointer (some ⟨w.heap.size, 0, none⟩)]] (wr.alloc (.cells #[.int .i64 a.fn, .slice A1 a.args.length c1] 39)) (AddPost (qOf rel n a) (fun g => W1.heap.size ≤ g ∧ g ≠ wr.heap.size) (W1.heap.size + 1) v1 v2 (.slice (some ⟨W1.heap.size, 0, none⟩) n.length n.length) rels rows gone (wr.alloc (.cells #[.int .i64 a.fn, .slice A1 a.args.length c1] 39)))) := Lib.hid (by
            have hbd := hI.bd hml hnl (by omega)
            refine gAdd_any (N := fun g => g < W1.heap.size ∨ g = wr.heap.size) _ ((hG.on ((Below.refl _ _).alloc (Nat.le_refl _) _)).wide fun g hg => ⟨hG.s g hg, by have := hG.lt g hg; omega⟩) ⟨fun args w => by kernel_rfl, fun i w3 hi hk => ?_⟩ (fun g hg => ⟨?_, fun ho => ?_⟩) (fun g hg => ?_) (hbd.2.2.2 hlt) hbd.2.1
            · rw [hI.gl] at hi
              obtain ⟨y, hy⟩ : ∃ y, n[i]? = some y := ⟨_, List.getElem?_eq_getElem hi⟩
              rw [qOf_at hy]
              have hbA : Below W1.heap.size wr (wr.alloc (.cells #[.int .i64 a.fn, .slice A1 a.args.length c1] 39)) := (Below.refl _ _).alloc hBr.size _
              have hb3 : Below W1.heap.size W1 w3 := (hBr.trans hbA).trans (hk.below fun g e => .inl e)
              have hbw3 : Below w.heap.size w w3 := HB.out.trans (hb3.mono HB.out.size)
              have h3 : w3.heap[wr.heap.size]? = _ := (hk.block wr.heap.size (.inr rfl)).trans p0
              exact oCol1_any (bn := w.heap.size) HC.out w3 (Hw.out.trans (hbw3.mono hn0)) (Nat.le_trans hn0 hbw3.size) (cell_on hbw3 hbc H0.out) (cells_two h3).1 (cells_two h3).2.1 (cells_one ((hb3.block _ hbn).trans Hq0.out)).1 (hav.to (fun g e => hbw3.block g e) fun g e => Nat.lt_of_lt_of_le e hbw3.size) (Hn.out.to (fun g e => hbw3.block g e) fun g e => Nat.lt_of_lt_of_le e hbw3.size) hy
            · have h1 := hBr.size
              have h2 : (wr.alloc (.cells #[.int .i64 a.fn, .slice A1 a.args.length c1] 39)).heap.size = wr.heap.size + 1 := by simp
              rcases hg with hg | hg <;> omega
            · have h1 : W1.heap.size ≤ g := hG.s g ho
              have h2 := hG.lt g ho
              rcases hg with hg | hg <;> omega
            · have h1 := hBr.size
              have h2 : (wr.alloc (.cells #[.int .i64 a.fn, .slice A1 a.args.length c1] 39)).heap.size = wr.heap.size + 1 := by simp
              rw [h2] at hg
              exact ⟨by omega, by omega⟩)
          have Hx := Lib.hid hx
          have hbs : Hid (Below W1.heap.size W1 (wr.alloc (.cells #[.int .i64 a.fn, .slice A1 a.args.length c1] 39))) := Lib.hid (hBr.trans ((Below.refl _ _).alloc hBr.size _))
          clear hx hav hI hG hBr e0 e1 hb p0
          go_wp2_with (first
            | (go_at_call 35; (with_reducible refine hADD.out.mono ?_); go_must (rintro e w1 ⟨rfl, v1', v2', rels', rows', gone', hG', hP', hK'⟩; have HN : Hid (∃ R rels rows gone, GInv rel m n (j + 1) R rels rows gone ∧ GrdW w1 (fun g => W1.heap.size ≤ g) (W1.heap.size + 1) v1' v2' (.slice (some ⟨W1.heap.size, 0, none⟩) n.length n.length) rels rows gone ∧ Below W1.heap.size W1 w1) := Lib.hid (by
                obtain ⟨R', hI'⟩ := HI.out.step Hx.out (fun x y _ _ => H4.out x y) hP'
                exact ⟨R', rels', rows', gone', hI', hG'.wide fun g hg => (hG'.s g hg).1, hbs.out.trans (hK'.below hbs.out.size fun g hg ho => by have := HG.out.s g ho; omega)⟩); clear hG' hP' hK'))
            | fail)
          go_roundw
          case rel => exact ⟨j + 1, v1', v2', by omega, by go_num, HN⟩
          case measure => simp [intOf]; omega
        · obtain rfl : j = m.length := by omega
          obtain ⟨R, rels, rows, gone, hI, hG, hBr⟩ := HR.out
          have hbd := hI.bd hml hnl (Nat.le_refl _)
          have HRel := Lib.hid (gRelation_any wr hG hI.plc hI.i4 hbd.2.2.1 (by rw [hI.gl]; omega) (by omega) hbd.2.1)
          have hfin := Lib.hid hI.done
          have hBw := HB.out.trans (hBr.mono HB.out.size)
          clear hI hG hbd
          go_wp2_with (first
            | (go_at_call 37; (with_reducible refine HRel.out.mono ?_); go_must (rintro e w1 ⟨rfl, hb1⟩))
            | fail)
          go_ret
          exact ⟨ret_int hfin.out, hBw.trans (hb1.mono hBw.size)⟩)

end

end Go.Proofs.Ytgjmodclgdkodaa

/- order: multisets of List Tm, walked. -/

namespace Go.Proofs.Ytgjmodclgdkodaa

open Go.RowKit Go.Shelf
set_option maxRecDepth 100000

@[local go_sem] theorem run_store_funcJ2 {P : Program} {w : World} {a : Addr} {m : Mode} (f : Fn) (ts cs : Array Value) : (store a (.func f ts cs) m).run P w = stored P w a (.func f ts cs) m := run_store P w a _ m rfl

section

variable {k : FuncId} {fs cv : Array Value} {n0 : Nat}

set_option maxHeartbeats 4000000 in
theorem oMulF2_any {rel : List Tm → List Tm → Int} {W : World} (hC : CmpC Rp1 rel k fs cv n0 W) (h4 : ∀ x y, In4 (rel x y)) {bc : Nat} {A B : Option Addr} {ca cb : Nat} (m n : List (List Tm)) (w : World) (hw : Below n0 W w) (hn0 : n0 ≤ w.heap.size) (h0 : w.cell? ⟨bc, 0, none⟩ = some (.func (.func k) fs cv)) (hm : RowV Rp1 (· < w.heap.size) w A m) (hn : RowV Rp1 (· < w.heap.size) w B n) :
    Calls Try.prog 56 #[.slice A m.length ca, .slice B n.length cb, .pointer (some ⟨bc, 0, none⟩)] w fun e w' => e = .returned (.int .i64 (mulR rel m n)) ∧ Below w.heap.size w w' := by
  have hml := hm.len
  have hnl := hn.len
  have q0 := heap_alloc_new w (.cells #[.slice B n.length cb] 64)
  obtain ⟨W1, hW⟩ : ∃ W1, w.alloc (.cells #[.slice B n.length cb] 64) = W1 := ⟨_, rfl⟩
  have hB : Below w.heap.size w W1 := by rw [← hW]; exact (Below.refl _ _).alloc (Nat.le_refl _) _
  have hWz : W1.heap.size = w.heap.size + 1 := by rw [← hW]; simp
  rw [hW] at q0
  have HWz := Lib.hid hWz
  have hbc := World.block_lt_of_cell? w _ h0
  obtain ⟨x0, _⟩ := cells_one q0
  have hent := hC.ent
  have HW := Lib.hid hW
  have hbn : w.heap.size < W1.heap.size := by omega
  by_cases h11 : m.length = 1 ∧ n.length = 1
  · have g0 : ((m.length : Int) == 1) = true := by rw [h11.1]; rfl
    have g1 : ((n.length : Int) == 1) = true := by rw [h11.2]; rfl
    have hm0' : 0 < m.length := by omega
    have hn0'' : 0 < n.length := by omega
    obtain ⟨a, hm0⟩ : ∃ a, m[0]? = some a := ⟨_, List.getElem?_eq_getElem hm0'⟩
    obtain ⟨y, hn0'⟩ : ∃ y, n[0]? = some y := ⟨_, List.getElem?_eq_getElem hn0''⟩
    obtain ⟨b, off, A1, c1, rfl, hb, e0, hav⟩ := hm.get hm0
    obtain ⟨b', off', A2, c2, rfl, hb', e2, hyv⟩ := hn.get hn0'
    rw [Nat.add_zero] at e0 e2
    have hres : Hid (mulR rel m n = rel a y) := Lib.hid (by
      have e1 : m = [a] := by
        match m, h11.1, hm0 with
        | [x], _, e => simp at e; rw [e]
      have e2 : n = [y] := by
        match n, h11.2, hn0' with
        | [x], _, e => simp at e; rw [e]
      rw [e1, e2, mulR_one (h4 a y)])
    have H := Lib.hid fun x : Later W1.heap.size W1 => hC.call a y (.slice A1 a.length c1) (.slice A2 y.length c2) x.w (hw.trans ((hB.trans (x.h.mono hB.size)).mono hn0)) (hav.to (fun g e => (hB.trans (x.h.mono hB.size)).block g e) fun g e => Nat.lt_of_lt_of_le e (hB.trans (x.h.mono hB.size)).size) (hyv.to (fun g e => (hB.trans (x.h.mono hB.size)).block g e) fun g e => Nat.lt_of_lt_of_le e (hB.trans (x.h.mono hB.size)).size)
    have m0 : ∀ x : Later W1.heap.size W1, x.w.cell? ⟨bc, 0, none⟩ = some (.func (.func k) fs cv) := fun x => cell_on (hB.trans (x.h.mono hB.size)) hbc h0
    have m1 : ∀ x : Later W1.heap.size W1, x.w.cell? ⟨w.heap.size, 0, none⟩ = some (.slice (some ⟨b', off', none⟩) n.length cb) := fun x => cell_on x.h hbn x0
    have m2 : ∀ x : Later W1.heap.size W1, x.w.cell? ⟨b, off, none⟩ = some (.slice A1 a.length c1) := fun x => cell_on (hB.trans (x.h.mono hB.size)) hb e0
    have m4 : ∀ x : Later W1.heap.size W1, x.w.cell? ⟨b', off', none⟩ = some (.slice A2 y.length c2) := fun x => cell_on (hB.trans (x.h.mono hB.size)) hb' e2
    clear hC hw hn0 h0 hm hn hm0 hn0' hav hyv hW q0 hWz h11 e0 e2
    go_enter Try.func56, Try.ntmps56
    go_upto_region 1 with fail
    rw [HW.out]
    go_upto_region 2 with fail
    refine wp_region_later W1.heap.size W1 (by kernel_rfl) (by kernel_rfl) (bl_drewN (Below.refl _ _) 1) ?_
    repeat (go_big_quiet_step (first
      | (with_reducible refine calls_later _ (Nat.le_refl _) (H.out _))
      | fail))
    refine wpQuiet_nil ?_
    rintro _ ⟨z, rfl⟩
    clear m0 m1 m2 m4
    go_wp2
    go_ret
    exact ⟨ret_int hres.out.symm, hB.trans (z.h.mono hB.size)⟩
  · obtain ⟨i0, hi, hz0, hz1, hz2⟩ := info_parts info_bool9
    have hmk : ∀ w : World, (Instr.makeSlice 75 (.int .i64 (n.length : Int)) (.int .i64 (n.length : Int))).run Try.prog w = .ok (.slice (some ⟨w.heap.size, 0, none⟩) n.length n.length) (w.alloc (.cells (madeCells #[.bool false] n.length) 4)) := fun w => run_make_row _ _ i0 _ Try.underlying75 hi hz0 hz1 rfl _ _ n.length (by rw [hz2]; omega) (by omega) w
    obtain ⟨Wg, hWg⟩ : ∃ Wg, (W1.alloc (.cells (madeCells #[.bool false] n.length) 4)).alloc (.cells #[.slice none 0 0, .slice none 0 0, .slice (some ⟨W1.heap.size, 0, none⟩) n.length n.length] 78) = Wg := ⟨_, rfl⟩
    have HG0 : Hid (GrdW Wg (fun g => W1.heap.size ≤ g) (W1.heap.size + 1) (.slice none 0 0) (.slice none 0 0) (.slice (some ⟨W1.heap.size, 0, none⟩) n.length n.length) [] [] (List.replicate n.length false) ∧ Below W1.heap.size W1 Wg) := Lib.hid (by rw [← hWg]; exact grd_new W1 n.length (by omega))
    have HWg := Lib.hid hWg
    have Hm := Lib.hid hm
    have Hn := Lib.hid hn
    have HC := Lib.hid hC
    have Hw := Lib.hid hw
    have H0 := Lib.hid h0
    have Hq0 := Lib.hid q0
    have H4 := Lib.hid h4
    have HB := Lib.hid hB
    have hcase : (((m.length : Int) == 1) = true ∧ ((n.length : Int) == 1) = false) ∨ ((m.length : Int) == 1) = false := by
      by_cases e : m.length = 1
      · exact .inl ⟨by rw [e]; rfl, by have : ¬ n.length = 1 := fun e2 => h11 ⟨e, e2⟩; simpa using fun e3 : (n.length : Int) = 1 => this (by omega)⟩
      · exact .inr (by simpa using fun e3 : (m.length : Int) = 1 => e (by omega))
    clear hC hw h0 hm hn hW q0 hWz hWg h11 h4 hB hi hz0 hz1 hz2
    rcases hcase with ⟨g0, g1⟩ | g0
    all_goals (
      go_enter Try.func56, Try.ntmps56
      go_upto_region 1 with fail
      rw [HW.out]
      go_upto_region 4 with fail
      rw [HWg.out]
      go_wp2
      go_loopw [31] (fun i wr => ∃ (j : Nat) (v1 v2 : Value), j ≤ m.length ∧ i = .int .i64 (j : Int) ∧ Hid (∃ R rels rows gone, GInv rel m n j R rels rows gone ∧ GrdW wr (fun g => W1.heap.size ≤ g) (W1.heap.size + 1) v1 v2 (.slice (some ⟨W1.heap.size, 0, none⟩) n.length n.length) rels rows gone ∧ Below W1.heap.size W1 wr)) (fun i _ => m.length - (intOf i).toNat)
      case atStart => exact ⟨0, _, _, Nat.zero_le _, rfl, Lib.hid ⟨[], [], [], _, GInv.start rel m n, HG0.out.1, HG0.out.2⟩⟩
      case round =>
        obtain ⟨j, v1, v2, hj, rfl, HR⟩ := hrel
        by_cases hlt : j < m.length
        · obtain ⟨a, hx⟩ : ∃ x, m[j]? = some x := ⟨_, List.getElem?_eq_getElem hlt⟩
          obtain ⟨R, rels, rows, gone, hI, hG, hBr⟩ := HR.out
          have HI := Lib.hid hI
          have HG := Lib.hid hG
          have hBw := HB.out.trans (hBr.mono HB.out.size)
          obtain ⟨b, off, A1, c1, rfl, hb, e0, hav⟩ := Hm.out.get hx
          have c0 := cell_on hBw hb e0
          have hwr1 : IntKind.i64.wrap ((j : Int) + 1) = (j : Int) + 1 := by rw [IntKind.wrap_i64]; omega
          have p0 := heap_alloc_new wr (.cells #[.slice A1 a.length c1] 37)
          have hADD : Hid (Calls Try.prog 35 #[.pointer (some ⟨W1.heap.size + 1, 0, none⟩), .func (.func 57) #[] #[.pointer (some ⟨bc, 0, none⟩), .pointer (some ⟨wr.heap.size, 0, none⟩), .pointer (some ⟨w.heap.size, 0, none⟩)]] (wr.alloc (.cells #[.slice A1 a.length c1] 37)) (AddPost (qOf rel n a) (fun g => W1.heap.size ≤ g ∧ g ≠ wr.heap.size) (W1.heap.size + 1) v1 v2 (.slice (some ⟨W1.heap.size, 0, none⟩) n.length n.length) rels rows gone (wr.alloc (.cells #[.slice A1 a.length c1] 37)))) := Lib.hid (by
            have hbd := hI.bd hml hnl (by omega)
            refine gAdd_any (N := fun g => g < W1.heap.size ∨ g = wr.heap.size) _ ((hG.on ((Below.refl _ _).alloc (Nat.le_refl _) _)).wide fun g hg => ⟨hG.s g hg, by have := hG.lt g hg; omega⟩) ⟨fun args w => by kernel_rfl, fun i w3 hi hk => ?_⟩ (fun g hg => ⟨?_, fun ho => ?_⟩) (fun g hg => ?_) (hbd.2.2.2 hlt) hbd.2.1
            · rw [hI.gl] at hi
              obtain ⟨y, hy⟩ : ∃ y, n[i]? = some y := ⟨_, List.getElem?_eq_getElem hi⟩
              rw [qOf_at hy]
              have hbA : Below W1.heap.size wr (wr.alloc (.cells #[.slice A1 a.length c1] 37)) := (Below.refl _ _).alloc hBr.size _
              have hb3 : Below W1.heap.size W1 w3 := (hBr.trans hbA).trans (hk.below fun g e => .inl e)
              have hbw3 : Below w.heap.size w w3 := HB.out.trans (hb3.mono HB.out.size)
              have h3 : w3.heap[wr.heap.size]? = _ := (hk.block wr.heap.size (.inr rfl)).trans p0
              exact oCol2_any (bn := w.heap.size) HC.out w3 (Hw.out.trans (hbw3.mono hn0)) (Nat.le_trans hn0 hbw3.size) (cell_on hbw3 hbc H0.out) (cells_one h3).1 (cells_one ((hb3.block _ hbn).trans Hq0.out)).1 (hav.to (fun g e => hbw3.block g e) fun g e => Nat.lt_of_lt_of_le e hbw3.size) (RowV.to (Rp := Rp1) Rp1.to Hn.out (fun g e => hbw3.block g e) fun g e => Nat.lt_of_lt_of_le e hbw3.size) hy
            · have h1 := hBr.size
              have h2 : (wr.alloc (.cells #[.slice A1 a.length c1] 37)).heap.size = wr.heap.size + 1 := by simp
              rcases hg with hg | hg <;> omega
            · have h1 : W1.heap.size ≤ g := hG.s g ho
              have h2 := hG.lt g ho
              rcases hg with hg | hg <;> omega
            · have h1 := hBr.size
              have h2 : (wr.alloc (.cells #[.slice A1 a.length c1] 37)).heap.size = wr.heap.size + 1 := by simp
              rw [h2] at hg
              exact ⟨by omega, by omega⟩)
          have Hx := Lib.hid hx
          have hbs : Hid (Below W1.heap.size W1 (wr.alloc (.cells #[.slice A1 a.length c1] 37))) := Lib.hid (hBr.trans ((Below.refl _ _).alloc hBr.size _))
          clear hx hav hI hG hBr e0 hb p0
          go_wp2_with (first
            | (go_at_call 35; (with_reducible refine hADD.out.mono ?_); go_must (rintro e w1 ⟨rfl, v1', v2', rels', rows', gone', hG', hP', hK'⟩; have HN : Hid (∃ R rels rows gone, GInv rel m n (j + 1) R rels rows gone ∧ GrdW w1 (fun g => W1.heap.size ≤ g) (W1.heap.size + 1) v1' v2' (.slice (some ⟨W1.heap.size, 0, none⟩) n.length n.length) rels rows gone ∧ Below W1.heap.size W1 w1) := Lib.hid (by
                obtain ⟨R', hI'⟩ := HI.out.step Hx.out (fun x y _ _ => H4.out x y) hP'
                exact ⟨R', rels', rows', gone', hI', hG'.wide fun g hg => (hG'.s g hg).1, hbs.out.trans (hK'.below hbs.out.size fun g hg ho => by have := HG.out.s g ho; omega)⟩); clear hG' hP' hK'))
            | fail)
          go_roundw
          case rel => exact ⟨j + 1, v1', v2', by omega, by go_num, HN⟩
          case measure => simp [intOf]; omega
        · obtain rfl : j = m.length := by omega
          obtain ⟨R, rels, rows, gone, hI, hG, hBr⟩ := HR.out
          have hbd := hI.bd hml hnl (Nat.le_refl _)
          have HRel := Lib.hid (gRelation_any wr hG hI.plc hI.i4 hbd.2.2.1 (by rw [hI.gl]; omega) (by omega) hbd.2.1)
          have hfin := Lib.hid hI.done
          have hBw := HB.out.trans (hBr.mono HB.out.size)
          clear hI hG hbd
          go_wp2_with (first
            | (go_at_call 37; (with_reducible refine HRel.out.mono ?_); go_must (rintro e w1 ⟨rfl, hb1⟩))
            | fail)
          go_ret
          exact ⟨ret_int hfin.out, hBw.trans (hb1.mono hBw.size)⟩)

end

end Go.Proofs.Ytgjmodclgdkodaa

/- order: multisets of List (List Tm), walked. -/

namespace Go.Proofs.Ytgjmodclgdkodaa

open Go.RowKit Go.Shelf
set_option maxRecDepth 100000

@[local go_sem] theorem run_store_funcJ3 {P : Program} {w : World} {a : Addr} {m : Mode} (f : Fn) (ts cs : Array Value) : (store a (.func f ts cs) m).run P w = stored P w a (.func f ts cs) m := run_store P w a _ m rfl

section

variable {k : FuncId} {fs cv : Array Value} {n0 : Nat}

set_option maxHeartbeats 4000000 in
theorem oMulF3_any {rel : List (List Tm) → List (List Tm) → Int} {W : World} (hC : CmpC Rp2 rel k fs cv n0 W) (h4 : ∀ x y, In4 (rel x y)) {bc : Nat} {A B : Option Addr} {ca cb : Nat} (m n : List (List (List Tm))) (w : World) (hw : Below n0 W w) (hn0 : n0 ≤ w.heap.size) (h0 : w.cell? ⟨bc, 0, none⟩ = some (.func (.func k) fs cv)) (hm : RowV Rp2 (· < w.heap.size) w A m) (hn : RowV Rp2 (· < w.heap.size) w B n) :
    Calls Try.prog 34 #[.slice A m.length ca, .slice B n.length cb, .pointer (some ⟨bc, 0, none⟩)] w fun e w' => e = .returned (.int .i64 (mulR rel m n)) ∧ Below w.heap.size w w' := by
  have hml := hm.len
  have hnl := hn.len
  have q0 := heap_alloc_new w (.cells #[.slice B n.length cb] 67)
  obtain ⟨W1, hW⟩ : ∃ W1, w.alloc (.cells #[.slice B n.length cb] 67) = W1 := ⟨_, rfl⟩
  have hB : Below w.heap.size w W1 := by rw [← hW]; exact (Below.refl _ _).alloc (Nat.le_refl _) _
  have hWz : W1.heap.size = w.heap.size + 1 := by rw [← hW]; simp
  rw [hW] at q0
  have HWz := Lib.hid hWz
  have hbc := World.block_lt_of_cell? w _ h0
  obtain ⟨x0, _⟩ := cells_one q0
  have hent := hC.ent
  have HW := Lib.hid hW
  have hbn : w.heap.size < W1.heap.size := by omega
  by_cases h11 : m.length = 1 ∧ n.length = 1
  · have g0 : ((m.length : Int) == 1) = true := by rw [h11.1]; rfl
    have g1 : ((n.length : Int) == 1) = true := by rw [h11.2]; rfl
    have hm0' : 0 < m.length := by omega
    have hn0'' : 0 < n.length := by omega
    obtain ⟨a, hm0⟩ : ∃ a, m[0]? = some a := ⟨_, List.getElem?_eq_getElem hm0'⟩
    obtain ⟨y, hn0'⟩ : ∃ y, n[0]? = some y := ⟨_, List.getElem?_eq_getElem hn0''⟩
    obtain ⟨b, off, A1, c1, rfl, hb, e0, hav⟩ := hm.get hm0
    obtain ⟨b', off', A2, c2, rfl, hb', e2, hyv⟩ := hn.get hn0'
    rw [Nat.add_zero] at e0 e2
    have hres : Hid (mulR rel m n = rel a y) := Lib.hid (by
      have e1 : m = [a] := by
        match m, h11.1, hm0 with
        | [x], _, e => simp at e; rw [e]
      have e2 : n = [y] := by
        match n, h11.2, hn0' with
        | [x], _, e => simp at e; rw [e]
      rw [e1, e2, mulR_one (h4 a y)])
    have H := Lib.hid fun x : Later W1.heap.size W1 => hC.call a y (.slice A1 a.length c1) (.slice A2 y.length c2) x.w (hw.trans ((hB.trans (x.h.mono hB.size)).mono hn0)) (hav.to (fun g e => (hB.trans (x.h.mono hB.size)).block g e) fun g e => Nat.lt_of_lt_of_le e (hB.trans (x.h.mono hB.size)).size) (hyv.to (fun g e => (hB.trans (x.h.mono hB.size)).block g e) fun g e => Nat.lt_of_lt_of_le e (hB.trans (x.h.mono hB.size)).size)
    have m0 : ∀ x : Later W1.heap.size W1, x.w.cell? ⟨bc, 0, none⟩ = some (.func (.func k) fs cv) := fun x => cell_on (hB.trans (x.h.mono hB.size)) hbc h0
    have m1 : ∀ x : Later W1.heap.size W1, x.w.cell? ⟨w.heap.size, 0, none⟩ = some (.slice (some ⟨b', off', none⟩) n.length cb) := fun x => cell_on x.h hbn x0
    have m2 : ∀ x : Later W1.heap.size W1, x.w.cell? ⟨b, off, none⟩ = some (.slice A1 a.length c1) := fun x => cell_on (hB.trans (x.h.mono hB.size)) hb e0
    have m4 : ∀ x : Later W1.heap.size W1, x.w.cell? ⟨b', off', none⟩ = some (.slice A2 y.length c2) := fun x => cell_on (hB.trans (x.h.mono hB.size)) hb' e2
    clear hC hw hn0 h0 hm hn hm0 hn0' hav hyv hW q0 hWz h11 e0 e2
    go_enter Try.func34, Try.ntmps34
    go_upto_region 1 with fail
    rw [HW.out]
    go_upto_region 2 with fail
    refine wp_region_later W1.heap.size W1 (by kernel_rfl) (by kernel_rfl) (bl_drewN (Below.refl _ _) 1) ?_
    repeat (go_big_quiet_step (first
      | (with_reducible refine calls_later _ (Nat.le_refl _) (H.out _))
      | fail))
    refine wpQuiet_nil ?_
    rintro _ ⟨z, rfl⟩
    clear m0 m1 m2 m4
    go_wp2
    go_ret
    exact ⟨ret_int hres.out.symm, hB.trans (z.h.mono hB.size)⟩
  · obtain ⟨i0, hi, hz0, hz1, hz2⟩ := info_parts info_bool9
    have hmk : ∀ w : World, (Instr.makeSlice 75 (.int .i64 (n.length : Int)) (.int .i64 (n.length : Int))).run Try.prog w = .ok (.slice (some ⟨w.heap.size, 0, none⟩) n.length n.length) (w.alloc (.cells (madeCells #[.bool false] n.length) 4)) := fun w => run_make_row _ _ i0 _ Try.underlying75 hi hz0 hz1 rfl _ _ n.length (by rw [hz2]; omega) (by omega) w
    obtain ⟨Wg, hWg⟩ : ∃ Wg, (W1.alloc (.cells (madeCells #[.bool false] n.length) 4)).alloc (.cells #[.slice none 0 0, .slice none 0 0, .slice (some ⟨W1.heap.size, 0, none⟩) n.length n.length] 78) = Wg := ⟨_, rfl⟩
    have HG0 : Hid (GrdW Wg (fun g => W1.heap.size ≤ g) (W1.heap.size + 1) (.slice none 0 0) (.slice none 0 0) (.slice (some ⟨W1.heap.size, 0, none⟩) n.length n.length) [] [] (List.replicate n.length false) ∧ Below W1.heap.size W1 Wg) := Lib.hid (by rw [← hWg]; exact grd_new W1 n.length (by omega))
    have HWg := Lib.hid hWg
    have Hm := Lib.hid hm
    have Hn := Lib.hid hn
    have HC := Lib.hid hC
    have Hw := Lib.hid hw
    have H0 := Lib.hid h0
    have Hq0 := Lib.hid q0
    have H4 := Lib.hid h4
    have HB := Lib.hid hB
    have hcase : (((m.length : Int) == 1) = true ∧ ((n.length : Int) == 1) = false) ∨ ((m.length : Int) == 1) = false := by
      by_cases e : m.length = 1
      · exact .inl ⟨by rw [e]; rfl, by have : ¬ n.length = 1 := fun e2 => h11 ⟨e, e2⟩; simpa using fun e3 : (n.length : Int) = 1 => this (by omega)⟩
      · exact .inr (by simpa using fun e3 : (m.length : Int) = 1 => e (by omega))
    clear hC hw h0 hm hn hW q0 hWz hWg h11 h4 hB hi hz0 hz1 hz2
    rcases hcase with ⟨g0, g1⟩ | g0
    all_goals (
      go_enter Try.func34, Try.ntmps34
      go_upto_region 1 with fail
      rw [HW.out]
      go_upto_region 4 with fail
      rw [HWg.out]
      go_wp2
      go_loopw [31] (fun i wr => ∃ (j : Nat) (v1 v2 : Value), j ≤ m.length ∧ i = .int .i64 (j : Int) ∧ Hid (∃ R rels rows gone, GInv rel m n j R rels rows gone ∧ GrdW wr (fun g => W1.heap.size ≤ g) (W1.heap.size + 1) v1 v2 (.slice (some ⟨W1.heap.size, 0, none⟩) n.length n.length) rels rows gone ∧ Below W1.heap.size W1 wr)) (fun i _ => m.length - (intOf i).toNat)
      case atStart => exact ⟨0, _, _, Nat.zero_le _, rfl, Lib.hid ⟨[], [], [], _, GInv.start rel m n, HG0.out.1, HG0.out.2⟩⟩
      case round =>
        obtain ⟨j, v1, v2, hj, rfl, HR⟩ := hrel
        by_cases hlt : j < m.length
        · obtain ⟨a, hx⟩ : ∃ x, m[j]? = some x := ⟨_, List.getElem?_eq_getElem hlt⟩
          obtain ⟨R, rels, rows, gone, hI, hG, hBr⟩ := HR.out
          have HI := Lib.hid hI
          have HG := Lib.hid hG
          have hBw := HB.out.trans (hBr.mono HB.out.size)
          obtain ⟨b, off, A1, c1, rfl, hb, e0, hav⟩ := Hm.out.get hx
          have c0 := cell_on hBw hb e0
          have hwr1 : IntKind.i64.wrap ((j : Int) + 1) = (j : Int) + 1 := by rw [IntKind.wrap_i64]; omega
          have p0 := heap_alloc_new wr (.cells #[.slice A1 a.length c1] 64)
          have hADD : Hid (Calls Try.prog 35 #[.pointer (some ⟨W1.heap.size + 1, 0, none⟩), .func (.func 36) #[] #[.pointer (some ⟨bc, 0, none⟩), .pointer (some ⟨wr.heap.size, 0, none⟩), .pointer (some ⟨w.heap.size, 0, none⟩)]] (wr.alloc (.cells #[.slice A1 a.length c1] 64)) (AddPost (qOf rel n a) (fun g => W1.heap.size ≤ g ∧ g ≠ wr.heap.size) (W1.heap.size + 1) v1 v2 (.slice (some ⟨W1.heap.size, 0, none⟩) n.length n.length) rels rows gone (wr.alloc (.cells #[.slice A1 a.length c1] 64)))) := Lib.hid (by
            have hbd := hI.bd hml hnl (by omega)
            refine gAdd_any (N := fun g => g < W1.heap.size ∨ g = wr.heap.size) _ ((hG.on ((Below.refl _ _).alloc (Nat.le_refl _) _)).wide fun g hg => ⟨hG.s g hg, by have := hG.lt g hg; omega⟩) ⟨fun args w => by kernel_rfl, fun i w3 hi hk => ?_⟩ (fun g hg => ⟨?_, fun ho => ?_⟩) (fun g hg => ?_) (hbd.2.2.2 hlt) hbd.2.1
            · rw [hI.gl] at hi
              obtain ⟨y, hy⟩ : ∃ y, n[i]? = some y := ⟨_, List.getElem?_eq_getElem hi⟩
              rw [qOf_at hy]
              have hbA : Below W1.heap.size wr (wr.alloc (.cells #[.slice A1 a.length c1] 64)) := (Below.refl _ _).alloc hBr.size _
              have hb3 : Below W1.heap.size W1 w3 := (hBr.trans hbA).trans (hk.below fun g e => .inl e)
              have hbw3 : Below w.heap.size w w3 := HB.out.trans (hb3.mono HB.out.size)
              have h3 : w3.heap[wr.heap.size]? = _ := (hk.block wr.heap.size (.inr rfl)).trans p0
              exact oCol3_any (bn := w.heap.size) HC.out w3 (Hw.out.trans (hbw3.mono hn0)) (Nat.le_trans hn0 hbw3.size) (cell_on hbw3 hbc H0.out) (cells_one h3).1 (cells_one ((hb3.block _ hbn).trans Hq0.out)).1 (hav.to (fun g e => hbw3.block g e) fun g e => Nat.lt_of_lt_of_le e hbw3.size) (RowV.to (Rp := Rp2) Rp2.to Hn.out (fun g e => hbw3.block g e) fun g e => Nat.lt_of_lt_of_le e hbw3.size) hy
            · have h1 := hBr.size
              have h2 : (wr.alloc (.cells #[.slice A1 a.length c1] 64)).heap.size = wr.heap.size + 1 := by simp
              rcases hg with hg | hg <;> omega
            · have h1 : W1.heap.size ≤ g := hG.s g ho
              have h2 := hG.lt g ho
              rcases hg with hg | hg <;> omega
            · have h1 := hBr.size
              have h2 : (wr.alloc (.cells #[.slice A1 a.length c1] 64)).heap.size = wr.heap.size + 1 := by simp
              rw [h2] at hg
              exact ⟨by omega, by omega⟩)
          have Hx := Lib.hid hx
          have hbs : Hid (Below W1.heap.size W1 (wr.alloc (.cells #[.slice A1 a.length c1] 64))) := Lib.hid (hBr.trans ((Below.refl _ _).alloc hBr.size _))
          clear hx hav hI hG hBr e0 hb p0
          go_wp2_with (first
            | (go_at_call 35; (with_reducible refine hADD.out.mono ?_); go_must (rintro e w1 ⟨rfl, v1', v2', rels', rows', gone', hG', hP', hK'⟩; have HN : Hid (∃ R rels rows gone, GInv rel m n (j + 1) R rels rows gone ∧ GrdW w1 (fun g => W1.heap.size ≤ g) (W1.heap.size + 1) v1' v2' (.slice (some ⟨W1.heap.size, 0, none⟩) n.length n.length) rels rows gone ∧ Below W1.heap.size W1 w1) := Lib.hid (by
                obtain ⟨R', hI'⟩ := HI.out.step Hx.out (fun x y _ _ => H4.out x y) hP'
                exact ⟨R', rels', rows', gone', hI', hG'.wide fun g hg => (hG'.s g hg).1, hbs.out.trans (hK'.below hbs.out.size fun g hg ho => by have := HG.out.s g ho; omega)⟩); clear hG' hP' hK'))
            | fail)
          go_roundw
          case rel => exact ⟨j + 1, v1', v2', by omega, by go_num, HN⟩
          case measure => simp [intOf]; omega
        · obtain rfl : j = m.length := by omega
          obtain ⟨R, rels, rows, gone, hI, hG, hBr⟩ := HR.out
          have hbd := hI.bd hml hnl (Nat.le_refl _)
          have HRel := Lib.hid (gRelation_any wr hG hI.plc hI.i4 hbd.2.2.1 (by rw [hI.gl]; omega) (by omega) hbd.2.1)
          have hfin := Lib.hid hI.done
          have hBw := HB.out.trans (hBr.mono HB.out.size)
          clear hI hG hbd
          go_wp2_with (first
            | (go_at_call 37; (with_reducible refine HRel.out.mono ?_); go_must (rintro e w1 ⟨rfl, hb1⟩))
            | fail)
          go_ret
          exact ⟨ret_int hfin.out, hBw.trans (hb1.mono hBw.size)⟩)

end

end Go.Proofs.Ytgjmodclgdkodaa

/- order: same, Cmp; the function values that compare: terms, multisets, literals. -/

namespace Go.Proofs.Ytgjmodclgdkodaa

open Go.RowKit Go.Shelf
set_option maxRecDepth 100000

@[local go_sem] theorem run_store_funcK {P : Program} {w : World} {a : Addr} {m : Mode} (f : Fn) (ts cs : Array Value) : (store a (.func f ts cs) m).run P w = stored P w a (.func f ts cs) m := run_store P w a _ m rfl

def OSame (t : Tm) : Prop := ∀ (u : Tm) (A A2 : Option Addr) (c c2 : Nat) (w : World), I64 t.fn → I64 u.fn → Args w w.heap.size A t.args → Args w w.heap.size A2 u.args →
  Calls Try.prog 61 #[.agg #[.int .i64 t.fn, .slice A t.args.length c], .agg #[.int .i64 u.fn, .slice A2 u.args.length c2]] w fun e w' => e = .returned (.bool (decide (cmpT t u = 0))) ∧ Below w.heap.size w w'

set_option maxHeartbeats 2000000 in
theorem oEqF_any (xs ys : List Tm) (ih : ∀ x ∈ xs, OSame x) (A A2 : Option Addr) (c c2 : Nat) (w : World) (hA : Args w w.heap.size A xs) (hA2 : Args w w.heap.size A2 ys) :
    Calls Try.prog 75 #[.slice A xs.length c, .slice A2 ys.length c2, .func (.func 61) #[] #[]] w fun e w' => ∃ b, e = .returned (.bool b) ∧ (b = true ↔ xs = ys) ∧ Below w.heap.size w w' := by
  have hl1 := hA.len
  have hl2 := hA2.len
  by_cases hlen : xs.length = ys.length
  · have HA := Lib.hid hA
    have HA2 := Lib.hid hA2
    have HL := Lib.hid hlen
    have hne : ((xs.length : Int) != (ys.length : Int)) = false := by rw [hlen]; simp
    clear hA hA2 hlen
    go_enter Try.func75, Try.ntmps75
    go_wp2
    go_loopw [17] (fun i wr => ∃ k : Nat, k ≤ xs.length ∧ i = .int .i64 (k : Int) ∧ Below w.heap.size w wr ∧ Hid (xs.take k = ys.take k)) (fun i _ => xs.length - (intOf i).toNat)
    case atStart => exact ⟨0, Nat.zero_le _, rfl, Below.refl _ _, Lib.hid (by simp)⟩
    case round =>
      obtain ⟨k, hk, rfl, hBr, H⟩ := hrel
      by_cases hlt : k < xs.length
      · obtain ⟨x, hx⟩ : ∃ x, xs[k]? = some x := ⟨_, List.getElem?_eq_getElem hlt⟩
        obtain ⟨y, hy⟩ : ∃ y, ys[k]? = some y := ⟨_, List.getElem?_eq_getElem (by have := HL.out; omega)⟩
        obtain ⟨b, off, A', c', rfl, h⟩ := HA.out.get hx
        obtain ⟨b2, off2, A2', c2', rfl, h2⟩ := HA2.out.get hy
        have e0 := cell_on hBr h.hb h.c0
        have e1 := cell_on hBr h.hb h.c1
        obtain ⟨q0, q1⟩ := heap2 wr (.cells #[.int .i64 x.fn, .slice A' x.args.length c'] 39) (.cells #[.int .i64 y.fn, .slice A2' y.args.length c2'] 39)
        have hBx : Below wr.heap.size wr ((wr.alloc (.cells #[.int .i64 x.fn, .slice A' x.args.length c'] 39)).alloc (.cells #[.int .i64 y.fn, .slice A2' y.args.length c2'] 39)) := ((Below.refl _ _).alloc (Nat.le_refl _) _).alloc (by simp) _
        have hB1 : Below w.heap.size w (wr.alloc (.cells #[.int .i64 x.fn, .slice A' x.args.length c'] 39)) := hBr.alloc hBr.size _
        have d0 := cell_on hB1 h2.hb h2.c0
        have d1 := cell_on hB1 h2.hb h2.c1
        obtain ⟨W, hW⟩ : ∃ W, ((wr.alloc (.cells #[.int .i64 x.fn, .slice A' x.args.length c'] 39)).alloc (.cells #[.int .i64 y.fn, .slice A2' y.args.length c2'] 39)) = W := ⟨_, rfl⟩
        rw [hW] at q0 q1 hBx
        obtain ⟨f0, f1, _, _⟩ := cells_two q0
        obtain ⟨g0, g1, _, _⟩ := cells_two q1
        have hBW := hBr.trans (hBx.mono hBr.size)
        have HS := Lib.hid (ih x (List.mem_of_getElem? hx) y A' A2' c' c2' W h.hi h2.hi (h.sub.on hBW) (h2.sub.on hBW))
        have HW := Lib.hid hW
        have Hx := Lib.hid hx
        have Hy := Lib.hid hy
        have hkl2 : (k : Int) < (ys.length : Int) := by have := HL.out; omega
        clear hx hy h h2 hW
        go_upto_region 7 with fail
        rw [HW.out]
        clear e0 e1 d0 d1
        by_cases hc : cmpT x y = 0
        · rw [decide_eq_true hc] at HS
          have hnx : Hid (xs.take (k + 1) = ys.take (k + 1)) := Lib.hid (by rw [List.take_add_one, List.take_add_one, Hx.out, Hy.out, H.out, cmp_zero_iff.1 hc])
          clear hc
          go_wp2_with (first
            | (go_at_call 61; (with_reducible refine HS.out.mono ?_); go_must (rintro e w1 ⟨rfl, hb1⟩))
            | fail)
          have hBz := hBW.trans (hb1.mono hBW.size)
          first
            | (go_roundw
               case rel => exact ⟨k + 1, by omega, by go_num, hBz, hnx⟩
               case measure => simp [intOf]; omega)
            | exact ⟨⟨k + 1, by omega, by go_num, hBz, hnx⟩, by simp [intOf]; omega⟩
        · rw [decide_eq_false hc] at HS
          have hres : Hid (¬ xs = ys) := Lib.hid (fun e => hc (by
            have h1 := Hx.out
            rw [e, Hy.out] at h1
            injection h1 with h1
            exact cmp_zero_iff.2 h1.symm))
          clear hc
          go_wp2_with (first
            | (go_at_call 61; (with_reducible refine HS.out.mono ?_); go_must (rintro e w1 ⟨rfl, hb1⟩))
            | fail)
          go_ret
          exact ⟨_, rfl, ⟨fun e => (by cases e), fun e => absurd e hres.out⟩, hBW.trans (hb1.mono hBW.size)⟩
      · obtain rfl : k = xs.length := by omega
        have hres : Hid (xs = ys) := Lib.hid (by
          have := H.out
          rwa [List.take_length, HL.out, List.take_length] at this)
        go_wp2
        go_ret
        exact ⟨_, rfl, ⟨fun _ => hres.out, fun _ => rfl⟩, hBr⟩
  · have hne : ((xs.length : Int) != (ys.length : Int)) = true := by
      simp only [bne_iff_ne, ne_eq]; omega
    have hres : Hid (¬ xs = ys) := Lib.hid fun e => hlen (by rw [e])
    clear hlen hA hA2
    go_enter Try.func75, Try.ntmps75
    go_wp2
    go_ret
    exact ⟨_, rfl, ⟨fun e => (by cases e), fun e => absurd e hres.out⟩, Below.refl _ _⟩

set_option maxHeartbeats 1000000 in
theorem oSame_any (t : Tm) : OSame t := by
  refine Tm.ind (P := OSame) (fun f xs ih => ?_) t
  intro u A A2 c c2 w hf hg hA hA2
  obtain ⟨g, ys⟩ := u
  simp only [Tm.fn, Tm.args] at hf hg hA hA2 ⊢
  have hBx : Below w.heap.size w ((w.alloc (.cells #[.int .i64 f, .slice A xs.length c] 39)).alloc (.cells #[.int .i64 g, .slice A2 ys.length c2] 39)) := ((Below.refl _ _).alloc (Nat.le_refl _) _).alloc (by simp) _
  have H := Lib.hid (oEqF_any xs ys ih A A2 c c2 _ (hA.on hBx) (hA2.on hBx))
  have HB := Lib.hid hBx
  clear hA hA2 hBx ih
  by_cases hfg : f = g
  · have e : ((f : Int) == g) = true := by simpa using hfg
    have Hfg := Lib.hid hfg
    clear hfg
    go_enter Try.func61, Try.ntmps61
    go_wp2_with (first
      | (go_at_call 75; (with_reducible refine H.out.mono ?_); go_must (rintro e w1 ⟨b, rfl, hb, hb1⟩; have Hb := Lib.hid hb; clear hb))
      | fail)
    go_ret
    refine ⟨ret_bool ?_, HB.out.trans (hb1.mono HB.out.size)⟩
    rw [Bool.eq_iff_iff, Hb.out, decide_eq_true_eq, cmp_zero_iff, Hfg.out]
    simp
  · have e : ((f : Int) == g) = false := by simpa using hfg
    have hres : Hid (decide (cmpT (.node f xs) (.node g ys) = 0) = false) := Lib.hid (decide_eq_false fun e => hfg (by have := cmp_zero_iff.1 e; injection this))
    clear hfg
    go_enter Try.func61, Try.ntmps61
    go_wp2
    go_ret
    exact ⟨ret_bool hres.out.symm, HB.out⟩

theorem box_ott9 {w W : World} {o : Odr} {s t : Tm} {P Q A A2 : Option Addr} {pc qc c c2 : Nat} (hW : (((w.alloc (.cells #[.bool o.lpo, .slice P o.prec.length pc, .slice Q o.wts.length qc, .int .i64 o.var] 27)).alloc (.cells #[.int .i64 s.fn, .slice A s.args.length c] 39)).alloc (.cells #[.int .i64 t.fn, .slice A2 t.args.length c2] 39)) = W) :
    Below w.heap.size w W ∧ W.heap[w.heap.size]? = some (.cells #[.bool o.lpo, .slice P o.prec.length pc, .slice Q o.wts.length qc, .int .i64 o.var] 27) ∧ W.heap[w.heap.size + 1]? = some (.cells #[.int .i64 s.fn, .slice A s.args.length c] 39) ∧ W.heap[w.heap.size + 2]? = some (.cells #[.int .i64 t.fn, .slice A2 t.args.length c2] 39) := by
  have e0 := heap_alloc_new w (.cells #[.bool o.lpo, .slice P o.prec.length pc, .slice Q o.wts.length qc, .int .i64 o.var] 27)
  obtain ⟨e1, e2⟩ := heap2 (w.alloc (.cells #[.bool o.lpo, .slice P o.prec.length pc, .slice Q o.wts.length qc, .int .i64 o.var] 27)) (.cells #[.int .i64 s.fn, .slice A s.args.length c] 39) (.cells #[.int .i64 t.fn, .slice A2 t.args.length c2] 39)
  have hz : (w.alloc (.cells #[.bool o.lpo, .slice P o.prec.length pc, .slice Q o.wts.length qc, .int .i64 o.var] 27)).heap.size = w.heap.size + 1 := by simp
  rw [hz] at e1 e2
  rw [← hW]
  refine ⟨(((Below.refl _ _).alloc (Nat.le_refl _) _).alloc (by simp) _).alloc (by simp; omega) _, ?_, e1, e2⟩
  rw [Below.heap_alloc _ _ _ (by simp; omega), Below.heap_alloc _ _ _ (by simp)]
  exact e0

theorem oCmp_any (o : Odr) (s t : Tm) (P Q A A2 : Option Addr) (pc qc c c2 : Nat) (w : World) (hrk : o.prec.length ≤ 140737488351232) (hM : OdrM w w.heap.size o P Q) (hs : TmK w s A c) (ht : TmK w t A2 c2) (hz : s.size + t.size ≤ 1073741824) :
    Calls Try.prog 20 #[.agg #[.bool o.lpo, .slice P o.prec.length pc, .slice Q o.wts.length qc, .int .i64 o.var], .agg #[.int .i64 s.fn, .slice A s.args.length c], .agg #[.int .i64 t.fn, .slice A2 t.args.length c2]] w fun e w' => e = .returned (.int .i64 (ordV o s t)) ∧ Below w.heap.size w w' := by
  obtain ⟨W, hW⟩ : ∃ W, (((w.alloc (.cells #[.bool o.lpo, .slice P o.prec.length pc, .slice Q o.wts.length qc, .int .i64 o.var] 27)).alloc (.cells #[.int .i64 s.fn, .slice A s.args.length c] 39)).alloc (.cells #[.int .i64 t.fn, .slice A2 t.args.length c2] 39)) = W := ⟨_, rfl⟩
  obtain ⟨hB, q0, q1, q2⟩ := box_ott9 hW
  have HL := Lib.hid (lpoCmp_at (pc := pc) (qc := qc) hrk (hM.on hB) (hs.on hB) (ht.on hB) hz W (Below.refl _ _))
  have HK := Lib.hid (kboCmp_at (pc := pc) (qc := qc) (hM.on hB) (hs.on hB) (ht.on hB) hz W (Below.refl _ _))
  have HW := Lib.hid hW
  obtain ⟨a0, a1, a2, a3⟩ := cells_four q0
  obtain ⟨b0, b1, _, _⟩ := cells_two q1
  obtain ⟨c0, c1, _, _⟩ := cells_two q2
  clear hW hM hs ht q0 q1 q2
  unfold ordV
  cases hl : o.lpo with
  | true =>
    rw [hl] at a0 HL
    go_enter Try.func20, Try.ntmps20
    go_upto_region 1 with fail
    rw [hl] at HW
    rw [HW.out]
    go_wp2_with (first
      | (go_at_call 32; (with_reducible refine HL.out.mono ?_); go_must (rintro e w1 ⟨rfl, hb1⟩))
      | fail)
    go_ret
    exact ⟨rfl, hB.trans (hb1.mono hB.size)⟩
  | false =>
    rw [hl] at a0 HK
    go_enter Try.func20, Try.ntmps20
    go_upto_region 1 with fail
    rw [hl] at HW
    rw [HW.out]
    go_wp2_with (first
      | (go_at_call 33; (with_reducible refine HK.out.mono ?_); go_must (rintro e w1 ⟨rfl, hb1⟩))
      | fail)
    go_ret
    exact ⟨rfl, hB.trans (hb1.mono hB.size)⟩

end Go.Proofs.Ytgjmodclgdkodaa

/- order: the function values that compare: terms, multisets, literals. -/

namespace Go.Proofs.Ytgjmodclgdkodaa

open Go.RowKit Go.Shelf
set_option maxRecDepth 100000

@[local go_sem] theorem run_store_funcL {P : Program} {w : World} {a : Addr} {m : Mode} (f : Fn) (ts cs : Array Value) : (store a (.func f ts cs) m).run P w = stored P w a (.func f ts cs) m := run_store P w a _ m rfl

theorem Ints.at {w w' : World} {n B : Nat} {A : Option Addr} {l : List Int} (h : Ints w n A l) (hb : Below n w w') (hn : n ≤ B) : Ints w' B A l :=
  ⟨h.len, h.i64, fun hp => by
    obtain ⟨b, off, hA, hlt, hc⟩ := h.ad hp
    exact ⟨b, off, hA, Nat.lt_of_lt_of_le hlt hn, fun i x hx => cell_on hb hlt (hc i x hx)⟩⟩

theorem OdrM.at {w w' : World} {n B : Nat} {o : Odr} {P Q : Option Addr} (h : OdrM w n o P Q) (hb : Below n w w') (hn : n ≤ B) : OdrM w' B o P Q := ⟨h.p.at hb hn, h.q.at hb hn, h.v⟩

section

variable {o : Odr} {P Q : Option Addr} {pc qc n0 : Nat} {W : World}

theorem oTerms1_cmp {bo : Nat} (hrk : o.prec.length ≤ 140737488351232) (hbo : W.heap[bo]? = some (.cells #[.bool o.lpo, .slice P o.prec.length pc, .slice Q o.wts.length qc, .int .i64 o.var] 27)) (hlt : bo < n0) (hM : OdrM W n0 o P Q) (hn : n0 ≤ W.heap.size) : CmpC RpT (tmI o) 60 #[] #[.pointer (some ⟨bo, 0, none⟩)] n0 W := by
  refine ⟨fun args w => by kernel_rfl, fun x y vx vy w hb hx hy => ?_⟩
  obtain ⟨A, c, rfl, h1, h2, h3⟩ := hx
  obtain ⟨A2, c2, rfl, g1, g2, g3⟩ := hy
  show Calls _ 60 #[.agg #[.int .i64 x.fn, .slice A x.args.length c], .agg #[.int .i64 y.fn, .slice A2 y.args.length c2], .pointer (some ⟨bo, 0, none⟩)] w _
  have hnw : n0 ≤ w.heap.size := Nat.le_trans hn hb.size
  have hMw := hM.at hb hnw
  have hbw := (hb.block bo hlt).trans hbo
  have hbwl : bo < w.heap.size := Nat.lt_of_lt_of_le hlt hnw
  obtain ⟨q0, q1⟩ := heap2 w (.cells #[.int .i64 x.fn, .slice A x.args.length c] 39) (.cells #[.int .i64 y.fn, .slice A2 y.args.length c2] 39)
  obtain ⟨V, hV⟩ : ∃ V, (w.alloc (.cells #[.int .i64 x.fn, .slice A x.args.length c] 39)).alloc (.cells #[.int .i64 y.fn, .slice A2 y.args.length c2] 39) = V := ⟨_, rfl⟩
  have hB : Below w.heap.size w V := by rw [← hV]; exact ((Below.refl _ _).alloc (Nat.le_refl _) _).alloc (by simp) _
  rw [hV] at q0 q1
  have hTx : TmK w x A c := ⟨h1, h2⟩
  have hTy : TmK w y A2 c2 := ⟨g1, g2⟩
  have HS := Lib.hid (oSame_any x y A A2 c c2 V h1 g1 (h2.toA.on hB) (g2.toA.on hB))
  have HC := Lib.hid fun V1 (hb1 : Below V.heap.size V V1) => oCmp_any o x y P Q A A2 pc qc c c2 V1 hrk (hMw.on (hB.trans (hb1.mono hB.size))) ((hTx.on hB).on hb1) ((hTy.on hB).on hb1) (by omega)
  obtain ⟨a0, a1, _, _⟩ := cells_two q0
  obtain ⟨b0, b1, _, _⟩ := cells_two q1
  have hl0 := (Array.getElem?_eq_some_iff.1 q0).1
  have hl1 := (Array.getElem?_eq_some_iff.1 q1).1
  obtain ⟨o0, o1, o2, o3⟩ := cells_four ((hB.block bo hbwl).trans hbw)
  have hbV : bo < V.heap.size := Nat.lt_of_lt_of_le hbwl hB.size
  have HW := Lib.hid hV
  unfold tmI
  clear hV hM hMw hbo hbw hTx hTy h2 g2 q0 q1
  by_cases e : cmpT x y = 0
  · rw [decide_eq_true e] at HS
    rw [if_pos e]
    clear e
    go_enter Try.func60, Try.ntmps60
    go_upto_region 1 with fail
    rw [HW.out]
    go_wp2_with (first
      | (go_at_call 61; (with_reducible refine HS.out.mono ?_); go_must (rintro e w1 ⟨rfl, hb1⟩))
      | fail)
    go_ret
    exact ⟨rfl, hB.trans (hb1.mono hB.size)⟩
  · rw [decide_eq_false e] at HS
    rw [if_neg e]
    clear e
    go_enter Try.func60, Try.ntmps60
    go_upto_region 1 with fail
    rw [HW.out]
    go_wp2_with (first
      | (go_at_call 61; (with_reducible refine HS.out.mono ?_); go_must (rintro e w1 ⟨rfl, hb1⟩; have d0 := cell_on hb1 hl0 a0; have d1 := cell_on hb1 hl0 a1; have d2 := cell_on hb1 hl1 b0; have d3 := cell_on hb1 hl1 b1; have p0 := cell_on hb1 hbV o0; have p1 := cell_on hb1 hbV o1; have p2 := cell_on hb1 hbV o2; have p3 := cell_on hb1 hbV o3; have HC1 := Lib.hid (HC.out w1 hb1)))
      | (go_at_call 20; (with_reducible refine HC1.out.mono ?_); go_must (rintro e w2 ⟨rfl, hb2⟩))
      | fail)
    go_ret
    exact ⟨rfl, (hB.trans (hb1.mono hB.size)).trans (hb2.mono (Nat.le_trans hB.size hb1.size))⟩

end

theorem mul_cmp1 {rel : Tm → Tm → Int} {k : FuncId} {fs cv : Array Value} {n0 b : Nat} {W : World} (hC : CmpC RpT rel k fs cv n0 W) (h4 : ∀ x y, In4 (rel x y)) (hb : W.cell? ⟨b, 0, none⟩ = some (.func (.func k) fs cv)) (hlt : b < n0) (hn : n0 ≤ W.heap.size) :
    CmpC Rp1 (mulR rel) 58 #[] #[.pointer (some ⟨b, 0, none⟩)] n0 W := by
  refine ⟨fun args w => by kernel_rfl, fun x y vx vy w hbw hx hy => ?_⟩
  obtain ⟨A, c, rfl, hx⟩ := hx
  obtain ⟨A2, c2, rfl, hy⟩ := hy
  exact oMulF1_any hC h4 x y w hbw (Nat.le_trans hn hbw.size) (cell_on hbw hlt hb) hx hy

theorem oMul1_eq (k : FuncId) (fs cv : Array Value) (w : World) : Calls Try.prog 39 #[.func (.func k) fs cv] w fun e w' => e = .returned (.func (.func 58) #[] #[.pointer (some ⟨w.heap.size, 0, none⟩)]) ∧ w' = w.alloc (.cells #[.func (.func k) fs cv] 85) := by
  go_enter Try.func39, Try.ntmps39
  go_wp2
  go_ret
  exact ⟨rfl, rfl⟩

theorem mul_cmp2 {rel : List Tm → List Tm → Int} {k : FuncId} {fs cv : Array Value} {n0 b : Nat} {W : World} (hC : CmpC Rp1 rel k fs cv n0 W) (h4 : ∀ x y, In4 (rel x y)) (hb : W.cell? ⟨b, 0, none⟩ = some (.func (.func k) fs cv)) (hlt : b < n0) (hn : n0 ≤ W.heap.size) :
    CmpC Rp2 (mulR rel) 56 #[] #[.pointer (some ⟨b, 0, none⟩)] n0 W := by
  refine ⟨fun args w => by kernel_rfl, fun x y vx vy w hbw hx hy => ?_⟩
  obtain ⟨A, c, rfl, hx⟩ := hx
  obtain ⟨A2, c2, rfl, hy⟩ := hy
  exact oMulF2_any hC h4 x y w hbw (Nat.le_trans hn hbw.size) (cell_on hbw hlt hb) hx hy

theorem oMul2_eq (k : FuncId) (fs cv : Array Value) (w : World) : Calls Try.prog 38 #[.func (.func k) fs cv] w fun e w' => e = .returned (.func (.func 56) #[] #[.pointer (some ⟨w.heap.size, 0, none⟩)]) ∧ w' = w.alloc (.cells #[.func (.func k) fs cv] 83) := by
  go_enter Try.func38, Try.ntmps38
  go_wp2
  go_ret
  exact ⟨rfl, rfl⟩

theorem mul_cmp3 {rel : List (List Tm) → List (List Tm) → Int} {k : FuncId} {fs cv : Array Value} {n0 b : Nat} {W : World} (hC : CmpC Rp2 rel k fs cv n0 W) (h4 : ∀ x y, In4 (rel x y)) (hb : W.cell? ⟨b, 0, none⟩ = some (.func (.func k) fs cv)) (hlt : b < n0) (hn : n0 ≤ W.heap.size) :
    CmpC Rp3 (mulR rel) 34 #[] #[.pointer (some ⟨b, 0, none⟩)] n0 W := by
  refine ⟨fun args w => by kernel_rfl, fun x y vx vy w hbw hx hy => ?_⟩
  obtain ⟨A, c, rfl, hx⟩ := hx
  obtain ⟨A2, c2, rfl, hy⟩ := hy
  exact oMulF3_any hC h4 x y w hbw (Nat.le_trans hn hbw.size) (cell_on hbw hlt hb) hx hy

theorem oMul3_eq (k : FuncId) (fs cv : Array Value) (w : World) : Calls Try.prog 21 #[.func (.func k) fs cv] w fun e w' => e = .returned (.func (.func 34) #[] #[.pointer (some ⟨w.heap.size, 0, none⟩)]) ∧ w' = w.alloc (.cells #[.func (.func k) fs cv] 65) := by
  go_enter Try.func21, Try.ntmps21
  go_wp2
  go_ret
  exact ⟨rfl, rfl⟩

theorem oTerms_eq (vs : Array Value) (w : World) (l : Bool) (p q v : Value) (h1 : ∃ A n c, p = .slice A n c) (h2 : ∃ A n c, q = .slice A n c) (h3 : ∃ i, v = .int .i64 i) (hvs : vs = #[.bool l, p, q, v]) : Calls Try.prog 40 #[.agg vs] w fun e w' => e = .returned (.func (.func 60) #[] #[.pointer (some ⟨w.heap.size, 0, none⟩)]) ∧ w' = w.alloc (.cells vs 27) := by
  obtain ⟨A, n, c, rfl⟩ := h1
  obtain ⟨B, m, d, rfl⟩ := h2
  obtain ⟨i, rfl⟩ := h3
  subst hvs
  go_enter Try.func40, Try.ntmps40
  go_wp2
  go_ret
  exact ⟨rfl, rfl⟩

theorem oLiterals_any (o : Odr) (P Q : Option Addr) (pc qc : Nat) (w : World) (hrk : o.prec.length ≤ 140737488351232) (hM : OdrM w w.heap.size o P Q) :
    Calls Try.prog 22 #[.agg #[.bool o.lpo, .slice P o.prec.length pc, .slice Q o.wts.length qc, .int .i64 o.var]] w fun e w' => ∃ b, e = .returned (.func (.func 56) #[] #[.pointer (some ⟨b, 0, none⟩)]) ∧ CmpC Rp2 (ltR o) 56 #[] #[.pointer (some ⟨b, 0, none⟩)] w'.heap.size w' ∧ Below w.heap.size w w' := by
  obtain ⟨c0, c1, c2, c3⟩ := cells_four (heap_alloc_new w (.cells #[.bool o.lpo, .slice P o.prec.length pc, .slice Q o.wts.length qc, .int .i64 o.var] 27))
  obtain ⟨W, hW⟩ : ∃ W, w.alloc (.cells #[.bool o.lpo, .slice P o.prec.length pc, .slice Q o.wts.length qc, .int .i64 o.var] 27) = W := ⟨_, rfl⟩
  have hWz : W.heap.size = w.heap.size + 1 := by rw [← hW]; simp
  have hB : Below w.heap.size w W := by rw [← hW]; exact (Below.refl _ _).alloc (Nat.le_refl _) _
  rw [hW] at c0 c1 c2 c3
  have HW := Lib.hid hW
  have HT := Lib.hid (oTerms_eq _ W o.lpo (.slice P o.prec.length pc) (.slice Q o.wts.length qc) (.int .i64 o.var) ⟨_, _, _, rfl⟩ ⟨_, _, _, rfl⟩ ⟨_, rfl⟩ rfl)
  have HF : Hid (∀ W1 W2 W3, W1 = W.alloc (.cells #[.bool o.lpo, .slice P o.prec.length pc, .slice Q o.wts.length qc, .int .i64 o.var] 27) → W2 = W1.alloc (.cells #[.func (.func 60) #[] #[.pointer (some ⟨W.heap.size, 0, none⟩)]] 85) → W3 = W2.alloc (.cells #[.func (.func 58) #[] #[.pointer (some ⟨W1.heap.size, 0, none⟩)]] 83) →
      CmpC Rp2 (ltR o) 56 #[] #[.pointer (some ⟨W2.heap.size, 0, none⟩)] W3.heap.size W3 ∧ Below w.heap.size w W3) := Lib.hid fun W1 W2 W3 e1 e2 e3 => by
    have z1 : W1.heap.size = W.heap.size + 1 := by rw [e1]; simp
    have z2 : W2.heap.size = W1.heap.size + 1 := by rw [e2]; simp
    have z3 : W3.heap.size = W2.heap.size + 1 := by rw [e3]; simp
    have b1 : Below W.heap.size W W1 := by rw [e1]; exact (Below.refl _ _).alloc (Nat.le_refl _) _
    have b2 : Below W1.heap.size W1 W2 := by rw [e2]; exact (Below.refl _ _).alloc (Nat.le_refl _) _
    have b3 : Below W2.heap.size W2 W3 := by rw [e3]; exact (Below.refl _ _).alloc (Nat.le_refl _) _
    have p1 : W1.heap[W.heap.size]? = some (.cells #[.bool o.lpo, .slice P o.prec.length pc, .slice Q o.wts.length qc, .int .i64 o.var] 27) := by rw [e1]; exact heap_alloc_new W _
    have p2 : W2.heap[W1.heap.size]? = some (.cells #[.func (.func 60) #[] #[.pointer (some ⟨W.heap.size, 0, none⟩)]] 85) := by rw [e2]; exact heap_alloc_new W1 _
    have p3 : W3.heap[W2.heap.size]? = some (.cells #[.func (.func 58) #[] #[.pointer (some ⟨W1.heap.size, 0, none⟩)]] 83) := by rw [e3]; exact heap_alloc_new W2 _
    have b13 : Below W1.heap.size W1 W3 := b2.trans (b3.mono b2.size)
    have b03 : Below w.heap.size w W3 := (hB.trans (b1.mono hB.size)).trans (b13.mono (Nat.le_trans hB.size b1.size))
    refine ⟨?_, b03⟩
    have C0 := oTerms1_cmp (W := W3) (n0 := W3.heap.size) hrk ((b13.block _ (by omega)).trans p1) (by omega) (hM.on b03) (Nat.le_refl _)
    have C1 := mul_cmp1 C0 (tmI_in4 o) (cells_one ((b3.block _ (by omega)).trans p2)).1 (by omega) (Nat.le_refl _)
    exact mul_cmp2 C1 (mulR_in4 _) (cells_one p3).1 (by omega) (Nat.le_refl _)
  clear hW hM hWz
  go_enter Try.func22, Try.ntmps22
  go_upto_region 1 with fail
  rw [HW.out]
  go_wp2_with (first
    | (go_at_call 40; (with_reducible refine HT.out.mono ?_); go_must (rintro e w1 ⟨rfl, h1⟩; have H1 := Lib.hid h1; clear h1))
    | (go_at_call 39; (with_reducible refine (oMul1_eq _ _ _ w1).mono ?_); go_must (rintro e w2 ⟨rfl, h2⟩; have H2 := Lib.hid h2; clear h2))
    | (go_at_call 38; (with_reducible refine (oMul2_eq _ _ _ w2).mono ?_); go_must (rintro e w3 ⟨rfl, h3⟩; have H3 := Lib.hid h3; clear h3))
    | fail)
  go_ret
  obtain ⟨h1, h2⟩ := HF.out w1 w2 w3 H1.out H2.out H3.out
  exact ⟨_, rfl, h1, h2⟩

end Go.Proofs.Ytgjmodclgdkodaa

/- what wakes share: numbers in memory, the facts' ends -/

namespace Go.Proofs.Ytgjmodclgdkodaa

open Go.RowKit Go.Shelf Go.Maps
set_option maxRecDepth 100000
set_option maxRecDepth 100000

theorem IntsR.ints {w : World} {base : Nat} {A : Option Addr} {n c : Nat} {l : List Int} (h : IntsR w base (.slice A n c) l) (hl : l.length ≤ 9223372036854775807) : Ints w w.heap.size A l := by
  refine ⟨hl, h.i64, fun hn => ?_⟩
  obtain ⟨x, hx⟩ : ∃ x, l[0]? = some x := ⟨_, List.getElem?_eq_getElem hn⟩
  obtain ⟨g, c', hv, hg, _⟩ := h.get hx
  injection hv with hA
  refine ⟨g, 0, hA, hg, fun i y hy => ?_⟩
  obtain ⟨g2, c2, hv2, _, hc⟩ := h.get hy
  injection hv2 with hA2
  rw [hA] at hA2
  injection hA2 with hA2
  injection hA2 with hA2
  rw [hA2, Nat.zero_add]
  exact hc

/-- The facts' ends: what the last operation leaves is all that is wanted. -/
theorem finF_last {P : Program} {Q : Act → World → Prop} {w : World} {d : Nat} {v : Value} : ∀ (l : List Oper) (pl : List Fct) (a : Act), l.length = pl.length → d < a.tmps.size → (∃ o, l.getLast? = some o ∧ o.dst = some d) → pl.getLast? = some (Fct.eq v) → (∀ a' : Act, a'.defers = a.defers → a'.tmps.size = a.tmps.size → a'.eval (.tmp d) = v → Q a' w) → finF Q w l pl a
  | [], _, _, _, _, ⟨_, h, _⟩, _, _ => by simp at h
  | _ :: _, [], _, h, _, _, _, _ => by simp at h
  | [o], [p], a, _, hd, ⟨o', h1, h2⟩, h3, h => by
    simp at h1 h3
    subst h1 h3
    unfold finF
    rw [h2]
    intro u hu
    have hu : u = v := hu
    subst hu
    unfold finF
    exact h _ rfl (by simp [Act.put]) (by simp [Act.put, Act.eval, hd])
  | [o], _ :: _ :: _, a, h0, _, _, _, _ => by simp at h0
  | _ :: _ :: _, [_], a, h0, _, _, _, _ => by simp at h0
  | o :: o2 :: l, p :: p2 :: pl, a, h0, hd, h1, h3, h => by
    have hg : ∀ a' : Act, a'.defers = a.defers → a'.tmps.size = a.tmps.size → finF Q w (o2 :: l) (p2 :: pl) a' := fun a' e1 e2 =>
      finF_last (P := P) (o2 :: l) (p2 :: pl) a' (by simpa using h0) (by rw [e2]; exact hd) (by simpa using h1) (by simpa using h3) fun a2 e3 e4 => h a2 (e3.trans e1) (e4.trans e2)
    unfold finF
    cases o.dst with
    | none => exact hg a rfl rfl
    | some d' => intro u _; exact hg _ rfl (by simp [Act.put])

/-- An order that lies in memory, as a value. -/
def ordF (o : Odr) (P : Option Addr) (pc : Nat) (Q : Option Addr) (qc : Nat) : Fct := Fct.eq (.agg #[.bool o.lpo, .slice P o.prec.length pc, .slice Q o.wts.length qc, .int .i64 o.var])

theorem i64s (n : Int) (h1 : -100 ≤ n) (h2 : n ≤ 100) : I64 n := ⟨by omega, by omega⟩

end Go.Proofs.Ytgjmodclgdkodaa

/- order: a literal's members, those of each literal of a clause, in memory. -/

namespace Go.Proofs.Ytgjmodclgdkodaa

open Go.RowKit Go.Shelf
set_option maxRecDepth 100000

/-- A literal, in plain words. -/
structure Li where
  neg : Bool
  l : Tm
  r : Tm

def Li.mb (x : Li) : List (List Tm) := membs x.neg x.l x.r

/-- A literal's terms lie in N's blocks. -/
structure LiK (w : World) (N : Nat → Prop) (x : Li) (A1 : Option Addr) (c1 : Nat) (A2 : Option Addr) (c2 : Nat) : Prop where
  il : I64 x.l.fn
  ir : I64 x.r.fn
  sl : ArgsK w N A1 c1 x.l.args
  sr : ArgsK w N A2 c2 x.r.args
  zl : x.l.size ≤ 536870912
  zr : x.r.size ≤ 536870912

theorem LiK.to {w w' : World} {N M : Nat → Prop} {x : Li} {A1 A2 : Option Addr} {c1 c2 : Nat} (h : LiK w N x A1 c1 A2 c2) (hk : ∀ g, N g → w'.heap[g]? = w.heap[g]?) (hm : ∀ g, N g → M g) : LiK w' M x A1 c1 A2 c2 :=
  ⟨h.il, h.ir, (h.sl.keep hk).wide hm, (h.sr.keep hk).wide hm, h.zl, h.zr⟩

theorem LiK.on {w w' : World} {x : Li} {A1 A2 : Option Addr} {c1 c2 : Nat} (h : LiK w (· < w.heap.size) x A1 c1 A2 c2) (hb : Below w.heap.size w w') : LiK w' (· < w'.heap.size) x A1 c1 A2 c2 :=
  h.to (fun g e => hb.block g e) fun _ e => Nat.lt_of_lt_of_le e hb.size

/-- A row of literals. -/
structure ClsK (w : World) (N : Nat → Prop) (A : Option Addr) (l : List Li) : Prop where
  ad : 0 < l.length → ∃ b off, A = some ⟨b, off, none⟩ ∧ N b ∧ ∀ (i : Nat) (x : Li), l[i]? = some x → ∃ A1 c1 A2 c2, w.cell? ⟨b, off + i * 5, none⟩ = some (.bool x.neg) ∧ w.cell? ⟨b, off + i * 5 + 1, none⟩ = some (.int .i64 x.l.fn) ∧ w.cell? ⟨b, off + i * 5 + 2, none⟩ = some (.slice A1 x.l.args.length c1) ∧ w.cell? ⟨b, off + i * 5 + 3, none⟩ = some (.int .i64 x.r.fn) ∧ w.cell? ⟨b, off + i * 5 + 4, none⟩ = some (.slice A2 x.r.args.length c2) ∧ LiK w N x A1 c1 A2 c2

theorem ClsK.get {w : World} {N : Nat → Prop} {A : Option Addr} {l : List Li} (h : ClsK w N A l) {i : Nat} {x : Li} (e : l[i]? = some x) : ∃ b off A1 c1 A2 c2, A = some ⟨b, off, none⟩ ∧ N b ∧ w.cell? ⟨b, off + i * 5, none⟩ = some (.bool x.neg) ∧ w.cell? ⟨b, off + i * 5 + 1, none⟩ = some (.int .i64 x.l.fn) ∧ w.cell? ⟨b, off + i * 5 + 2, none⟩ = some (.slice A1 x.l.args.length c1) ∧ w.cell? ⟨b, off + i * 5 + 3, none⟩ = some (.int .i64 x.r.fn) ∧ w.cell? ⟨b, off + i * 5 + 4, none⟩ = some (.slice A2 x.r.args.length c2) ∧ LiK w N x A1 c1 A2 c2 := by
  have hlt := (List.getElem?_eq_some_iff.1 e).1
  obtain ⟨b, off, hA, hb, hc⟩ := h.ad (by omega)
  obtain ⟨A1, c1, A2, c2, h⟩ := hc i x e
  exact ⟨b, off, A1, c1, A2, c2, hA, hb, h⟩

theorem ClsK.to {w w' : World} {N M : Nat → Prop} {A : Option Addr} {l : List Li} (h : ClsK w N A l) (hk : ∀ g, N g → w'.heap[g]? = w.heap[g]?) (hm : ∀ g, N g → M g) : ClsK w' M A l :=
  ⟨fun hp => by
    obtain ⟨b, off, hA, hb, hc⟩ := h.ad hp
    refine ⟨b, off, hA, hm b hb, fun i x e => ?_⟩
    obtain ⟨A1, c1, A2, c2, h0, h1, h2, h3, h4, h5⟩ := hc i x e
    have k := fun o v (h : w.cell? ⟨b, o, none⟩ = some v) => (cell_of_heap (hk b hb)).trans h
    exact ⟨A1, c1, A2, c2, k _ _ h0, k _ _ h1, k _ _ h2, k _ _ h3, k _ _ h4, h5.to hk hm⟩⟩

theorem ClsK.on {w w' : World} {A : Option Addr} {l : List Li} (h : ClsK w (· < w.heap.size) A l) (hb : Below w.heap.size w w') : ClsK w' (· < w'.heap.size) A l :=
  h.to (fun g e => hb.block g e) fun _ e => Nat.lt_of_lt_of_le e hb.size

theorem rp1_one {w : World} {N : Nat → Prop} {b : Nat} {t : Tm} {A : Option Addr} {c : Nat} {ty : TypeId} (h : w.heap[b]? = some (.cells #[.int .i64 t.fn, .slice A t.args.length c] ty)) (hN : N b) (h1 : I64 t.fn) (h2 : ArgsK w N A c t.args) (h3 : t.size ≤ 536870912) : Rp1 N w [t] (.slice (some ⟨b, 0, none⟩) 1 1) := by
  obtain ⟨z0, z1, _, _⟩ := cells_two h
  refine ⟨_, 1, rfl, by simp, fun _ => ⟨b, 0, rfl, hN, fun i u e => ?_⟩⟩
  match i, e with
  | 0, e => simp at e; subst e; exact ⟨A, c, z0, z1, h1, h2, h3⟩
  | i + 1, e => simp at e

theorem rp1_two {w : World} {N : Nat → Prop} {b : Nat} {t u : Tm} {A B : Option Addr} {c d : Nat} {ty : TypeId} (h : w.heap[b]? = some (.cells #[.int .i64 t.fn, .slice A t.args.length c, .int .i64 u.fn, .slice B u.args.length d] ty)) (hN : N b) (h1 : I64 t.fn) (h2 : ArgsK w N A c t.args) (h3 : t.size ≤ 536870912) (g1 : I64 u.fn) (g2 : ArgsK w N B d u.args) (g3 : u.size ≤ 536870912) : Rp1 N w [t, u] (.slice (some ⟨b, 0, none⟩) 2 2) := by
  obtain ⟨z0, z1, z2, z3⟩ := cells_four h
  refine ⟨_, 2, rfl, by simp, fun _ => ⟨b, 0, rfl, hN, fun i v e => ?_⟩⟩
  match i, e with
  | 0, e => simp at e; subst e; exact ⟨A, c, z0, z1, h1, h2, h3⟩
  | 1, e => simp at e; subst e; exact ⟨B, d, z2, z3, g1, g2, g3⟩
  | i + 2, e => simp at e

theorem rp2_one {w : World} {N : Nat → Prop} {b : Nat} {m : List Tm} {A : Option Addr} {c : Nat} {ty : TypeId} (h : w.heap[b]? = some (.cells #[.slice A m.length c] ty)) (hN : N b) (h1 : Rp1 N w m (.slice A m.length c)) : Rp2 N w [m] (.slice (some ⟨b, 0, none⟩) 1 1) := by
  obtain ⟨z0, _⟩ := cells_one h
  refine ⟨_, 1, rfl, by simp, fun _ => ⟨b, 0, rfl, hN, fun i u e => ?_⟩⟩
  match i, e with
  | 0, e => simp at e; subst e; exact ⟨A, c, z0, h1⟩
  | i + 1, e => simp at e

theorem rp2_two {w : World} {N : Nat → Prop} {b : Nat} {m n : List Tm} {A B : Option Addr} {c d : Nat} {ty : TypeId} (h : w.heap[b]? = some (.cells #[.slice A m.length c, .slice B n.length d] ty)) (hN : N b) (h1 : Rp1 N w m (.slice A m.length c)) (h2 : Rp1 N w n (.slice B n.length d)) : Rp2 N w [m, n] (.slice (some ⟨b, 0, none⟩) 2 2) := by
  obtain ⟨z0, z1, _, _⟩ := cells_two h
  refine ⟨_, 2, rfl, by simp, fun _ => ⟨b, 0, rfl, hN, fun i u e => ?_⟩⟩
  match i, e with
  | 0, e => simp at e; subst e; exact ⟨A, c, z0, h1⟩
  | 1, e => simp at e; subst e; exact ⟨B, d, z1, h2⟩
  | i + 2, e => simp at e

theorem cells_5o {W : World} {b : Nat} {x y z u v : Value} {t : TypeId} (h : W.heap[b]? = some (.cells #[x, y, z, u, v] t)) : W.cell? ⟨b, 0, none⟩ = some x ∧ W.cell? ⟨b, 1, none⟩ = some y ∧ W.cell? ⟨b, 2, none⟩ = some z ∧ W.cell? ⟨b, 3, none⟩ = some u ∧ W.cell? ⟨b, 4, none⟩ = some v := by
  refine ⟨?_, ?_, ?_, ?_, ?_⟩ <;> simp [World.cell?, h]

/-- The members, where they are laid. -/
theorem mb_neg {C : Nat → Prop} {w W : World} {x : Li} {A1 A2 : Option Addr} {c1 c2 : Nat} {ty ty2 : TypeId} (hC : ∀ g, C g → g < w.heap.size) (h : LiK w (fun g => g < w.heap.size ∧ ¬ C g) x A1 c1 A2 c2) (hW : (w.alloc (.cells #[.int .i64 x.l.fn, .slice A1 x.l.args.length c1, .int .i64 x.r.fn, .slice A2 x.r.args.length c2] ty)).alloc (.cells #[.slice (some ⟨w.heap.size, 0, none⟩) 2 2] ty2) = W) (hn : x.neg = true) :
    Rp2 (fun g => g < W.heap.size ∧ ¬ C g) W x.mb (.slice (some ⟨w.heap.size + 1, 0, none⟩) 1 1) ∧ Below w.heap.size w W := by
  obtain ⟨e1, e2⟩ := heap2 w (.cells #[.int .i64 x.l.fn, .slice A1 x.l.args.length c1, .int .i64 x.r.fn, .slice A2 x.r.args.length c2] ty) (.cells #[.slice (some ⟨w.heap.size, 0, none⟩) 2 2] ty2)
  have hB : Below w.heap.size w W := by rw [← hW]; exact ((Below.refl _ _).alloc (Nat.le_refl _) _).alloc (by simp) _
  rw [hW] at e1 e2
  have l1 := (Array.getElem?_eq_some_iff.1 e1).1
  have l2 := (Array.getElem?_eq_some_iff.1 e2).1
  have hk := h.to (M := fun g => g < W.heap.size ∧ ¬ C g) (fun g e => hB.block g e.1) fun _ e => ⟨Nat.lt_of_lt_of_le e.1 hB.size, e.2⟩
  refine ⟨?_, hB⟩
  unfold Li.mb membs
  rw [if_pos hn]
  exact rp2_one (m := [x.l, x.r]) e2 ⟨l2, fun e => by have := hC _ e; omega⟩ (rp1_two e1 ⟨l1, fun e => by have := hC _ e; omega⟩ hk.il hk.sl hk.zl hk.ir hk.sr hk.zr)

theorem mb_pos {C : Nat → Prop} {w W : World} {x : Li} {A1 A2 : Option Addr} {c1 c2 : Nat} {ty ty2 : TypeId} (hC : ∀ g, C g → g < w.heap.size) (h : LiK w (fun g => g < w.heap.size ∧ ¬ C g) x A1 c1 A2 c2) (hW : ((w.alloc (.cells #[.int .i64 x.l.fn, .slice A1 x.l.args.length c1] ty)).alloc (.cells #[.int .i64 x.r.fn, .slice A2 x.r.args.length c2] ty)).alloc (.cells #[.slice (some ⟨w.heap.size, 0, none⟩) 1 1, .slice (some ⟨w.heap.size + 1, 0, none⟩) 1 1] ty2) = W) (hn : x.neg = false) :
    Rp2 (fun g => g < W.heap.size ∧ ¬ C g) W x.mb (.slice (some ⟨w.heap.size + 2, 0, none⟩) 2 2) ∧ Below w.heap.size w W := by
  have e1 := heap_alloc_new w (.cells #[.int .i64 x.l.fn, .slice A1 x.l.args.length c1] ty)
  obtain ⟨e2, e3⟩ := heap2 (w.alloc (.cells #[.int .i64 x.l.fn, .slice A1 x.l.args.length c1] ty)) (.cells #[.int .i64 x.r.fn, .slice A2 x.r.args.length c2] ty) (.cells #[.slice (some ⟨w.heap.size, 0, none⟩) 1 1, .slice (some ⟨w.heap.size + 1, 0, none⟩) 1 1] ty2)
  have hz2 : (w.alloc (.cells #[.int .i64 x.l.fn, .slice A1 x.l.args.length c1] ty)).heap.size = w.heap.size + 1 := by simp
  rw [hz2] at e2 e3
  have e1' : W.heap[w.heap.size]? = some (.cells #[.int .i64 x.l.fn, .slice A1 x.l.args.length c1] ty) := by
    rw [← hW, Below.heap_alloc _ _ _ (by simp; omega), Below.heap_alloc _ _ _ (by simp)]
    exact e1
  have hB : Below w.heap.size w W := by rw [← hW]; exact (((Below.refl _ _).alloc (Nat.le_refl _) _).alloc (by simp) _).alloc (by simp; omega) _
  rw [hW] at e2 e3
  have l1 := (Array.getElem?_eq_some_iff.1 e1').1
  have l2 := (Array.getElem?_eq_some_iff.1 e2).1
  have l3 := (Array.getElem?_eq_some_iff.1 e3).1
  have hk := h.to (M := fun g => g < W.heap.size ∧ ¬ C g) (fun g e => hB.block g e.1) fun _ e => ⟨Nat.lt_of_lt_of_le e.1 hB.size, e.2⟩
  refine ⟨?_, hB⟩
  unfold Li.mb membs
  rw [if_neg (by rw [hn]; decide)]
  exact rp2_two (m := [x.l]) (n := [x.r]) e3 ⟨l3, fun e => by have := hC _ e; omega⟩ (rp1_one e1' ⟨l1, fun e => by have := hC _ e; omega⟩ hk.il hk.sl hk.zl) (rp1_one e2 ⟨l2, fun e => by have := hC _ e; omega⟩ hk.ir hk.sr hk.zr)

theorem oMembersK_any (x : Li) (A1 A2 : Option Addr) (c1 c2 : Nat) (w : World) (C : Nat → Prop) (hC : ∀ g, C g → g < w.heap.size) (h : LiK w (fun g => g < w.heap.size ∧ ¬ C g) x A1 c1 A2 c2) :
    Calls Try.prog 28 #[.agg #[.bool x.neg, .int .i64 x.l.fn, .slice A1 x.l.args.length c1, .int .i64 x.r.fn, .slice A2 x.r.args.length c2]] w fun e w' => ∃ A c, e = .returned (.slice A x.mb.length c) ∧ Rp2 (fun g => g < w'.heap.size ∧ ¬ C g) w' x.mb (.slice A x.mb.length c) ∧ Below w.heap.size w w' := by
  have q0 := heap_alloc_new w (.cells #[.bool x.neg, .int .i64 x.l.fn, .slice A1 x.l.args.length c1, .int .i64 x.r.fn, .slice A2 x.r.args.length c2] 41)
  obtain ⟨W, hW⟩ : ∃ W, w.alloc (.cells #[.bool x.neg, .int .i64 x.l.fn, .slice A1 x.l.args.length c1, .int .i64 x.r.fn, .slice A2 x.r.args.length c2] 41) = W := ⟨_, rfl⟩
  have hB : Below w.heap.size w W := by rw [← hW]; exact (Below.refl _ _).alloc (Nat.le_refl _) _
  rw [hW] at q0
  have hq := (Array.getElem?_eq_some_iff.1 q0).1
  obtain ⟨a0, a1, a2, a3, a4⟩ := cells_5o q0
  have H := Lib.hid (h.to (M := fun g => g < W.heap.size ∧ ¬ C g) (fun g e => hB.block g e.1) fun _ e => ⟨Nat.lt_of_lt_of_le e.1 hB.size, e.2⟩)
  have HC := Lib.hid fun g (e : C g) => Nat.lt_of_lt_of_le (hC g e) hB.size
  have HW := Lib.hid hW
  clear h q0 hW hC
  cases hn : x.neg with
  | true =>
    have hl : Hid (x.mb.length = 1) := Lib.hid (by unfold Li.mb membs; rw [hn]; rfl)
    have Hn := Lib.hid hn
    rw [hn] at a0 HW
    clear hn
    go_enter Try.func28, Try.ntmps28
    go_upto_region 1 with fail
    rw [HW.out]
    go_wp2
    go_ret
    obtain ⟨h1, h2⟩ := mb_neg HC.out H.out rfl Hn.out
    exact ⟨some ⟨W.heap.size + 1, 0, none⟩, 1, by rw [hl.out]; rfl, by rw [hl.out]; exact h1, hB.trans (h2.mono hB.size)⟩
  | false =>
    have hl : Hid (x.mb.length = 2) := Lib.hid (by unfold Li.mb membs; rw [hn]; rfl)
    have Hn := Lib.hid hn
    rw [hn] at a0 HW
    clear hn
    go_enter Try.func28, Try.ntmps28
    go_upto_region 1 with fail
    rw [HW.out]
    go_wp2
    go_ret
    obtain ⟨h1, h2⟩ := mb_pos HC.out H.out rfl Hn.out
    exact ⟨some ⟨W.heap.size + 2, 0, none⟩, 2, by rw [hl.out]; rfl, by rw [hl.out]; exact h1, hB.trans (h2.mono hB.size)⟩

theorem oMembers_any (x : Li) (A1 A2 : Option Addr) (c1 c2 : Nat) (w : World) (h : LiK w (· < w.heap.size) x A1 c1 A2 c2) :
    Calls Try.prog 28 #[.agg #[.bool x.neg, .int .i64 x.l.fn, .slice A1 x.l.args.length c1, .int .i64 x.r.fn, .slice A2 x.r.args.length c2]] w fun e w' => ∃ A c, e = .returned (.slice A x.mb.length c) ∧ Rp2 (· < w'.heap.size) w' x.mb (.slice A x.mb.length c) ∧ Below w.heap.size w w' :=
  (oMembersK_any x A1 A2 c1 c2 w (fun _ => False) (fun _ e => e.elim) (h.to (fun _ _ => rfl) fun _ e => ⟨e, id⟩)).mono fun _ _ ⟨A, c, he, hR, hb⟩ => ⟨A, c, he, hR.to (fun _ _ => rfl) fun _ e => e.1, hb⟩

end Go.Proofs.Ytgjmodclgdkodaa

/- order: the members of each literal; Lits, Clauses, Maximal. -/

namespace Go.Proofs.Ytgjmodclgdkodaa

open Go.RowKit Go.Shelf
set_option maxRecDepth 100000

theorem info_rows9 : (Try.prog.info? 64).map (fun i => (i.zero, i.size, i.bytes)) = some (some (.slice none 0 0), 1, 24) := by kernel_rfl

/-- The row of what was laid for k literals. -/
structure EaW (w : World) (base : Nat) (v : Value) (l : List Li) (k : Nat) (vs : List Value) : Prop where
  row : w.ownsRow base 64 1 v k vs
  at_ : ∀ (i : Nat) (x : Li), i < k → l[i]? = some x → ∃ A c, vs[i]? = some (.slice A x.mb.length c) ∧ Rp2 (fun g => g < w.heap.size ∧ v.ownBlock ≠ some g) w x.mb (.slice A x.mb.length c)

theorem EaW.next {w w1 w5 : World} {base : Nat} {v v5 : Value} {l : List Li} {k : Nat} {vs : List Value} {x : Li} {A : Option Addr} {c : Nat} {ob : Obj} (h : EaW w base v l k vs) (hb : Below w.heap.size w w1) (hx : l[k]? = some x) (hR : Rp2 (fun g => g < w1.heap.size ∧ v.ownBlock ≠ some g) w1 x.mb (.slice A x.mb.length c))
    (hown : w5.ownsRow base 64 1 v5 (k + 1) (vs ++ [.slice A x.mb.length c])) (hgr : (w1.alloc ob).grownBy w5 v.ownBlock) (hat : v5.ownBlock = v.ownBlock ∨ v5.ownBlock = some (w1.alloc ob).heap.size) : EaW w5 base v5 l (k + 1) (vs ++ [.slice A x.mb.length c]) := by
  have hs : w1.heap.size + 1 ≤ w5.heap.size := by have := hgr.size; simpa using this
  have hkeep : ∀ g, g < w1.heap.size ∧ v.ownBlock ≠ some g → w5.heap[g]? = w1.heap[g]? := fun g hg => (hgr.block g (by simp; omega) (fun e => hg.2 e.symm)).trans (Below.heap_alloc w1 ob g hg.1)
  have hnew : ∀ g, g < w1.heap.size ∧ v.ownBlock ≠ some g → g < w5.heap.size ∧ v5.ownBlock ≠ some g := fun g hg => ⟨by omega, fun e => by
    rcases hat with h' | h'
    · rw [h'] at e; exact hg.2 e
    · rw [h'] at e; injection e with e; simp at e; omega⟩
  have hlen : vs.length = k := by have := h.row.1; omega
  refine ⟨hown, fun i y hi hy => ?_⟩
  by_cases e : i = k
  · subst e
    rw [hx] at hy; injection hy with hy; subst hy
    refine ⟨A, c, ?_, hR.to hkeep hnew⟩
    rw [← hlen, List.getElem?_append_right (Nat.le_refl _), Nat.sub_self]; rfl
  · obtain ⟨A', c', h1, h2⟩ := h.at_ i y (by omega) hy
    refine ⟨A', c', by rw [List.getElem?_append_left (by omega)]; exact h1, (h2.to (M := fun g => g < w1.heap.size ∧ v.ownBlock ≠ some g) (fun g hg => hb.block g hg.1) fun g hg => ⟨Nat.lt_of_lt_of_le hg.1 hb.size, hg.2⟩).to hkeep hnew⟩

theorem EaW.done {w : World} {base : Nat} {v : Value} {l : List Li} {vs : List Value} (h : EaW w base v l l.length vs) (hl : l.length ≤ 1048576) : ∃ A c, v = .slice A (l.map Li.mb).length c ∧ Rp3 (· < w.heap.size) w (l.map Li.mb) (.slice A (l.map Li.mb).length c) := by
  have hlm : (l.map Li.mb).length = l.length := by simp
  rcases h.row.2 with ⟨rfl, h0⟩ | ⟨g, cap, cur, rfl, hb, hg, hn, hm, hs, ht⟩
  · refine ⟨none, 0, by rw [hlm, h0], none, 0, rfl, by rw [hlm]; exact hl, fun hp => by rw [hlm] at hp; omega⟩
  · refine ⟨some ⟨g, 0, none⟩, cap, by rw [hlm], _, _, rfl, by rw [hlm]; exact hl, fun _ => ⟨g, 0, rfl, (Array.getElem?_eq_some_iff.1 hg).1, fun i m e => ?_⟩⟩
    rw [List.getElem?_map] at e
    cases hy : l[i]? with
    | none => rw [hy] at e; cases e
    | some y =>
      rw [hy] at e; simp at e; subst e
      have hi := (List.getElem?_eq_some_iff.1 hy).1
      obtain ⟨A', c', h1, h2⟩ := h.at_ i y hi hy
      refine ⟨A', c', ?_, h2.to (fun _ _ => rfl) fun g hg => hg.1⟩
      rw [Nat.zero_add, h.row.cellAt i (by have := h.row.1; omega), h1]

set_option maxHeartbeats 2000000 in
theorem oEach_any (l : List Li) (A : Option Addr) (c : Nat) (w : World) (hL : ClsK w (· < w.heap.size) A l) (hl : l.length ≤ 1048576) :
    Calls Try.prog 23 #[.slice A l.length c] w fun e w' => ∃ A' c', e = .returned (.slice A' (l.map Li.mb).length c') ∧ Rp3 (· < w'.heap.size) w' (l.map Li.mb) (.slice A' (l.map Li.mb).length c') ∧ Below w.heap.size w w' := by
  obtain ⟨i0, hi, hz0, hz1, hz2⟩ := info_parts info_rows9
  have H0 : Hid (EaW w w.heap.size (.slice none 0 0) l 0 []) := Lib.hid ⟨⟨rfl, .inl ⟨rfl, rfl⟩⟩, fun i x hi => absurd hi (Nat.not_lt_zero _)⟩
  have HL := Lib.hid hL
  clear hL
  go_enter Try.func23, Try.ntmps23
  go_wp2
  go_loopw [3, 8] (fun v i wr => ∃ (k : Nat) (vs : List Value), k ≤ l.length ∧ i = .int .i64 (k : Int) ∧ Below w.heap.size w wr ∧ Hid (EaW wr w.heap.size v l k vs)) (fun _ i _ => l.length - (intOf i).toNat)
  case atStart => exact ⟨0, [], Nat.zero_le _, rfl, Below.refl _ _, H0⟩
  case round =>
    obtain ⟨k, vs, hk, rfl, hBr, HE⟩ := hrel
    obtain ⟨Av, cv, rfl⟩ := row_slice HE.out.row
    by_cases hlt : k < l.length
    · obtain ⟨x, hx⟩ : ∃ x, l[k]? = some x := ⟨_, List.getElem?_eq_getElem hlt⟩
      obtain ⟨b, off, A1, c1, A2, c2, rfl, hb, e0, e1, e2, e3, e4, hK⟩ := HL.out.get hx
      have f0 := cell_on hBr hb e0
      have f1 := cell_on hBr hb e1
      have f2 := cell_on hBr hb e2
      have f3 := cell_on hBr hb e3
      have f4 := cell_on hBr hb e4
      have hwr1 : IntKind.i64.wrap ((k : Int) + 1) = (k : Int) + 1 := by rw [IntKind.wrap_i64]; omega
      have q0 := heap_alloc_new wr (.cells #[.bool x.neg, .int .i64 x.l.fn, .slice A1 x.l.args.length c1, .int .i64 x.r.fn, .slice A2 x.r.args.length c2] 41)
      obtain ⟨V, hV⟩ : ∃ V, wr.alloc (.cells #[.bool x.neg, .int .i64 x.l.fn, .slice A1 x.l.args.length c1, .int .i64 x.r.fn, .slice A2 x.r.args.length c2] 41) = V := ⟨_, rfl⟩
      have hBv : Below wr.heap.size wr V := by rw [← hV]; exact (Below.refl _ _).alloc (Nat.le_refl _) _
      rw [hV] at q0
      obtain ⟨a0, a1, a2, a3, a4⟩ := cells_5o q0
      have hBw := hBr.trans (hBv.mono hBr.size)
      have hrl := row_lt HE.out.row
      have HM : Hid (Calls Try.prog 28 #[.agg #[.bool x.neg, .int .i64 x.l.fn, .slice A1 x.l.args.length c1, .int .i64 x.r.fn, .slice A2 x.r.args.length c2]] V fun e w' => ∃ A c, e = .returned (.slice A x.mb.length c) ∧ Rp2 (fun g => g < w'.heap.size ∧ (Value.slice Av k cv).ownBlock ≠ some g) w' x.mb (.slice A x.mb.length c) ∧ Below V.heap.size V w') := Lib.hid (oMembersK_any x A1 A2 c1 c2 V (fun g => (Value.slice Av k cv).ownBlock = some g) (fun g e => Nat.lt_of_lt_of_le (hrl g e).2 hBv.size) (hK.to (fun g e => hBw.block g e) fun g e => ⟨Nat.lt_of_lt_of_le e hBw.size, fun h => by have := (hrl g h).1; omega⟩))
      have HV := Lib.hid hV
      have Hx := Lib.hid hx
      clear hx hb e0 e1 e2 e3 e4 hK q0 hV
      go_upto_region 5 with fail
      rw [HV.out]
      clear f0 f1 f2 f3 f4
      go_wp2_with (first
        | (at_builtin
           go_must (
           refine wpList_append_own_at _ rfl _ _ 67 rfl w.heap.size 64 i0 (.slice none 0 0) 1 24 Try.underlying67 hi hz0 hz1 hz2 rfl (by decide) (.slice Av k cv) k _ rfl (row_keep HE.out.row fun g e => (Below.heap_alloc w1 _ g (Nat.lt_of_lt_of_le (hrl g e).2 hB1.size)).trans (hB1.block g (hrl g e).2)) ⟨w1.heap.size, 0, none⟩ 1 1 [.slice A' x.mb.length c'] rfl rfl (cell_one_new _ _ _) (by simp [Value.oneCell']) (by unfold maxLen; omega) (by omega) (by have := hBr.size; have := hB1.size; simp; omega) ?_
           intro v5 w5 hown5 hgr5 _ hat5
           obtain ⟨A5, c5, rfl⟩ := row_slice hown5
           have HN := Lib.hid (HE.out.next hB1 Hx.out HR.out hown5 hgr5 hat5)
           have HB5 : Hid (Below w.heap.size w w5) := Lib.hid (((hBr.trans (hB1.mono hBr.size)).alloc (Nat.le_trans hBr.size hB1.size) _).trans ⟨hgr5.os, hgr5.tape, hgr5.output, hgr5.size, fun g hg => hgr5.block g (by have := hBr.size; have := hB1.size; simp; omega) fun e => by have := (hrl g e.symm).1; omega⟩)
           clear hown5 hgr5 hat5))
        | (go_at_call 28; (with_reducible refine HM.out.mono ?_); go_must (rintro e w1 ⟨A', c', rfl, hR, hb1⟩; have HR := Lib.hid hR; have hB1 := hBv.trans (hb1.mono hBv.size); clear hR))
        | fail)
      go_roundw
      case rel => exact ⟨k + 1, _, by omega, by go_num, HB5.out, HN⟩
      case measure => simp [intOf]; omega
    · obtain rfl : k = l.length := by omega
      have hlm : Hid ((l.map Li.mb).length = l.length) := Lib.hid (by simp)
      go_wp2
      go_ret
      obtain ⟨A', c', hv, hR⟩ := HE.out.done hl
      exact ⟨A', c', by rw [← hv]; rfl, hR, hBr⟩

end Go.Proofs.Ytgjmodclgdkodaa

/- order: Lits, Clauses, Maximal. -/

namespace Go.Proofs.Ytgjmodclgdkodaa

open Go.RowKit Go.Shelf
set_option maxRecDepth 100000

/-- The function value that compares literals; the members of a literal. -/
def lfF (o : Odr) : Fct := ⟨fun v w => ∃ b n0, v = .func (.func 56) #[] #[.pointer (some ⟨b, 0, none⟩)] ∧ n0 ≤ w.heap.size ∧ CmpC Rp2 (ltR o) 56 #[] #[.pointer (some ⟨b, 0, none⟩)] n0 w,
  fun ⟨b, n0, hv, hn, hC⟩ hb => ⟨b, n0, hv, Nat.le_trans hn hb.size, hC.later (hb.mono hn)⟩⟩

def mbF (x : Li) : Fct := ⟨fun v w => ∃ A c, v = .slice A x.mb.length c ∧ Rp2 (· < w.heap.size) w x.mb (.slice A x.mb.length c),
  fun ⟨A, c, hv, hR⟩ hb => ⟨A, c, hv, hR.to (fun g e => hb.block g e) fun _ e => Nat.lt_of_lt_of_le e hb.size⟩⟩

section

variable {Fs : List Fct} {a0 : Act} {W : World} {dst : Option Tmp} {ty : TypeId} {pos : String} {after : Array Edge} {guard : Option (Nat × Bool)}

theorem st_load5 {s b : Nat} {x y z u v : Value} (hg : ∀ j want, guard = some (j, want) → ∀ v w, (Fs.getD j Fct.any).p v w → v = .bool want) (hs : a0.eval (.tmp s) = .pointer (some ⟨b, 0, none⟩)) (hW : W.heap[b]? = some (.cells #[x, y, z, u, v] 41)) :
    stepF Try.prog Fs a0 W ⟨dst, .load 41 (.tmp s), ty, pos, after, guard⟩ [(s, none)] (Fct.eq (.agg #[x, y, z, u, v])) := by
  refine .inl ⟨hg, fun a w hb hl => ?_⟩
  have h1 := ev_get (hl.1.trans hs)
  obtain ⟨c0, c1, c2, c3, c4⟩ := cells_5o ((hb.block b (Array.getElem?_eq_some_iff.1 hW).1).trans hW)
  simp [go_sem, leaves, h1, c0, c1, c2, c3, c4]
  exact ⟨Below.refl _ _, rfl⟩

theorem st_literals {o : Odr} {P Q : Option Addr} {pc qc s j : Nat} (hg : ∀ j want, guard = some (j, want) → ∀ v w, (Fs.getD j Fct.any).p v w → v = .bool want) (hrk : o.prec.length ≤ 140737488351232) (hM : OdrM W W.heap.size o P Q) (hF : Fs.getD j Fct.any = Fct.eq (.agg #[.bool o.lpo, .slice P o.prec.length pc, .slice Q o.wts.length qc, .int .i64 o.var])) :
    stepF Try.prog Fs a0 W ⟨dst, .call ⟨.value (.func 22), #[.tmp s], #[27]⟩, ty, pos, after, guard⟩ [(s, some j)] (lfF o) := by
  refine .inl ⟨hg, fun a w hb hl => ?_⟩
  have h0 := hl.1
  rw [hF] at h0
  have h1 := ev_get h0
  simp [go_sem, leaves, h1]
  refine (oLiterals_any o P Q pc qc w hrk (hM.on hb)).mono fun e w' h => ?_
  obtain ⟨b, he, hC, hbw⟩ := h
  exact ⟨_, he, hbw, b, w'.heap.size, rfl, Nat.le_refl _, hC⟩

theorem st_members {x : Li} {A1 A2 : Option Addr} {c1 c2 s j : Nat} (hg : ∀ j want, guard = some (j, want) → ∀ v w, (Fs.getD j Fct.any).p v w → v = .bool want) (hK : LiK W (· < W.heap.size) x A1 c1 A2 c2) (hF : Fs.getD j Fct.any = Fct.eq (.agg #[.bool x.neg, .int .i64 x.l.fn, .slice A1 x.l.args.length c1, .int .i64 x.r.fn, .slice A2 x.r.args.length c2])) :
    stepF Try.prog Fs a0 W ⟨dst, .call ⟨.value (.func 28), #[.tmp s], #[41]⟩, ty, pos, after, guard⟩ [(s, some j)] (mbF x) := by
  refine .inl ⟨hg, fun a w hb hl => ?_⟩
  have h0 := hl.1
  rw [hF] at h0
  have h1 := ev_get h0
  simp [go_sem, leaves, h1]
  refine (oMembers_any x A1 A2 c1 c2 w (hK.on hb)).mono fun e w' h => ?_
  obtain ⟨A, c, he, hR, hbw⟩ := h
  exact ⟨_, he, hbw, A, c, rfl, hR⟩

theorem st_compare {o : Odr} {x y : Li} {s0 s1 s2 j0 j1 j2 : Nat} {k : Int} (hg : ∀ j want, guard = some (j, want) → ∀ v w, (Fs.getD j Fct.any).p v w → v = .bool want) (hk : ltR o x.mb y.mb = k)
    (hF0 : Fs.getD j0 Fct.any = lfF o) (hF1 : Fs.getD j1 Fct.any = mbF x) (hF2 : Fs.getD j2 Fct.any = mbF y) :
    stepF Try.prog Fs a0 W ⟨dst, .call ⟨.value (.tmp s0), #[.tmp s1, .tmp s2], #[64, 64]⟩, ty, pos, after, guard⟩ [(s0, some j0), (s1, some j1), (s2, some j2)] (Fct.eq (.int .i64 k)) := by
  refine .inl ⟨hg, fun a w hb hl => ?_⟩
  obtain ⟨h0, h1, h2, _⟩ := hl
  rw [hF0] at h0
  rw [hF1] at h1
  rw [hF2] at h2
  obtain ⟨b, n0, hv, hn, hC⟩ := h0
  obtain ⟨A, c, hv1, hR1⟩ := h1
  obtain ⟨A', c', hv2, hR2⟩ := h2
  have e0 := ev_get hv
  have e1 := ev_get hv1
  have e2 := ev_get hv2
  simp [go_sem, leaves, e0, e1, e2]
  refine (show Calls Try.prog 56 #[.slice A x.mb.length c, .slice A' y.mb.length c', .pointer (some ⟨b, 0, none⟩)] w _ from hC.call x.mb y.mb _ _ w (Below.refl _ _) hR1 hR2).mono fun e w' h => ?_
  exact ⟨_, h.1, h.2, by rw [hk]; rfl⟩

end

theorem heap3o (w : World) (o1 o2 o3 : Obj) : (((w.alloc o1).alloc o2).alloc o3).heap[w.heap.size]? = some o1 ∧ (((w.alloc o1).alloc o2).alloc o3).heap[w.heap.size + 1]? = some o2 ∧ (((w.alloc o1).alloc o2).alloc o3).heap[w.heap.size + 2]? = some o3 := by
  have e0 := heap_alloc_new w o1
  obtain ⟨e1, e2⟩ := heap2 (w.alloc o1) o2 o3
  have hz : (w.alloc o1).heap.size = w.heap.size + 1 := by simp
  rw [hz] at e1 e2
  refine ⟨?_, e1, e2⟩
  rw [Below.heap_alloc _ _ _ (by simp; omega), Below.heap_alloc _ _ _ (by simp)]
  exact e0

/-- How two literals stand. -/
def litsO (o : Odr) (x y : Li) : Int := ltR o x.mb y.mb

set_option maxHeartbeats 2000000 in
theorem oLits_any (o : Odr) (x y : Li) (P Q A1 A2 B1 B2 : Option Addr) (pc qc c1 c2 d1 d2 : Nat) (w : World) (hrk : o.prec.length ≤ 140737488351232) (hM : OdrM w w.heap.size o P Q) (hx : LiK w (· < w.heap.size) x A1 c1 A2 c2) (hy : LiK w (· < w.heap.size) y B1 d1 B2 d2) :
    Calls Try.prog 13 #[.agg #[.bool o.lpo, .slice P o.prec.length pc, .slice Q o.wts.length qc, .int .i64 o.var], .agg #[.bool x.neg, .int .i64 x.l.fn, .slice A1 x.l.args.length c1, .int .i64 x.r.fn, .slice A2 x.r.args.length c2], .agg #[.bool y.neg, .int .i64 y.l.fn, .slice B1 y.l.args.length d1, .int .i64 y.r.fn, .slice B2 y.r.args.length d2]] w fun e w' => e = .returned (.int .i64 (litsO o x y)) ∧ Below w.heap.size w w' := by
  obtain ⟨q0, q1, q2⟩ := heap3o w (.cells #[.bool o.lpo, .slice P o.prec.length pc, .slice Q o.wts.length qc, .int .i64 o.var] 27) (.cells #[.bool x.neg, .int .i64 x.l.fn, .slice A1 x.l.args.length c1, .int .i64 x.r.fn, .slice A2 x.r.args.length c2] 41) (.cells #[.bool y.neg, .int .i64 y.l.fn, .slice B1 y.l.args.length d1, .int .i64 y.r.fn, .slice B2 y.r.args.length d2] 41)
  obtain ⟨W, hW⟩ : ∃ W, ((w.alloc (.cells #[.bool o.lpo, .slice P o.prec.length pc, .slice Q o.wts.length qc, .int .i64 o.var] 27)).alloc (.cells #[.bool x.neg, .int .i64 x.l.fn, .slice A1 x.l.args.length c1, .int .i64 x.r.fn, .slice A2 x.r.args.length c2] 41)).alloc (.cells #[.bool y.neg, .int .i64 y.l.fn, .slice B1 y.l.args.length d1, .int .i64 y.r.fn, .slice B2 y.r.args.length d2] 41) = W := ⟨_, rfl⟩
  have hB : Below w.heap.size w W := by rw [← hW]; exact (((Below.refl _ _).alloc (Nat.le_refl _) _).alloc (by simp) _).alloc (by simp; omega) _
  rw [hW] at q0 q1 q2
  have hM1 := (hM.on hB).on (Below.refl _ _).drew
  have hx1 := (hx.on hB).on (Below.refl _ _).drew
  have hy1 := (hy.on hB).on (Below.refl _ _).drew
  have HF := Lib.hid (And.intro q0 (And.intro q1 (And.intro q2 (And.intro hM1 (And.intro hx1 hy1)))))
  have HW := Lib.hid hW
  have HB := Lib.hid hB
  obtain ⟨k, hk⟩ : ∃ k, litsO o x y = k := ⟨_, rfl⟩
  rw [hk]
  have Hk := Lib.hid hk
  clear hW hM hx hy hM1 hx1 hy1 q0 q1 q2 hB hk
  go_enter Try.func13, Try.ntmps13
  go_upto_region 1 with fail
  rw [HW.out]
  obtain ⟨h1, h2, h3, hM, hx, hy⟩ := HF.out
  refine wp_region_facts 14 [[(3, none)], [(7, some 0)], [(4, none)], [(9, some 2)], [(5, none)], [(11, some 4)], [(8, some 1), (10, some 3), (12, some 5)], [(13, some 6)]] [Fct.eq (.agg #[.bool o.lpo, .slice P o.prec.length pc, .slice Q o.wts.length qc, .int .i64 o.var]), lfF o, Fct.eq (.agg #[.bool x.neg, .int .i64 x.l.fn, .slice A1 x.l.args.length c1, .int .i64 x.r.fn, .slice A2 x.r.args.length c2]), mbF x, Fct.eq (.agg #[.bool y.neg, .int .i64 y.l.fn, .slice B1 y.l.args.length d1, .int .i64 y.r.fn, .slice B2 y.r.args.length d2]), mbF y, Fct.eq (.int .i64 k), Fct.eq (.int .i64 k)] (by kernel_rfl) (by kernel_rfl) (by kernel_rfl) ?_ ?_
  · exact ⟨st_load4 gd_none rfl h1, st_literals gd_none hrk hM rfl, st_load5 gd_none rfl h2, st_members gd_none hx rfl, st_load5 gd_none rfl h3, st_members gd_none hy rfl, st_compare gd_none Hk.out rfl rfl rfl, st_assign gd_none rfl, trivial⟩
  · intro w' hb'
    refine finF_last (P := Try.prog) (d := 6) (v := .int .i64 k) _ _ _ (by kernel_rfl) (Nat.lt_of_lt_of_eq (show 6 < 14 by decide) (by kernel_rfl)) ⟨_, rfl, rfl⟩ rfl ?_
    intro a' hd ha he
    have HFw := Lib.hid (HB.out.trans (((Below.refl _ _).drew.trans (hb'.mono (Nat.le_refl _))).mono HB.out.size))
    have hd2 : a'.defers = [] := hd
    clear hd ha hb' h1 h2 h3 hM hx hy HF
    go_wp2
    have he2 := ev_get he
    exact bodyPost_ret (v := .int .i64 k) (by simp [results, Try.results13, go_sem, he2]) hd2 ⟨rfl, HFw.out⟩

/-- How two clauses stand. -/
def clsO (o : Odr) (a b : List Li) : Int := clR o (a.map Li.mb) (b.map Li.mb)

theorem oClauses_any (o : Odr) (a b : List Li) (P Q A B : Option Addr) (pc qc c d : Nat) (w : World) (hrk : o.prec.length ≤ 140737488351232) (hM : OdrM w w.heap.size o P Q) (ha : ClsK w (· < w.heap.size) A a) (hb : ClsK w (· < w.heap.size) B b) (hla : a.length ≤ 1048576) (hlb : b.length ≤ 1048576) :
    Calls Try.prog 8 #[.agg #[.bool o.lpo, .slice P o.prec.length pc, .slice Q o.wts.length qc, .int .i64 o.var], .slice A a.length c, .slice B b.length d] w fun e w' => e = .returned (.int .i64 (clsO o a b)) ∧ Below w.heap.size w w' := by
  obtain ⟨c0, c1, c2, c3⟩ := cells_four (heap_alloc_new w (.cells #[.bool o.lpo, .slice P o.prec.length pc, .slice Q o.wts.length qc, .int .i64 o.var] 27))
  obtain ⟨W, hW⟩ : ∃ W, w.alloc (.cells #[.bool o.lpo, .slice P o.prec.length pc, .slice Q o.wts.length qc, .int .i64 o.var] 27) = W := ⟨_, rfl⟩
  have hB : Below w.heap.size w W := by rw [← hW]; exact (Below.refl _ _).alloc (Nat.le_refl _) _
  rw [hW] at c0 c1 c2 c3
  have HW := Lib.hid hW
  have HL := Lib.hid (oLiterals_any o P Q pc qc W hrk (hM.on hB))
  have Ha := fun w1 (h : Below W.heap.size W w1) => oEach_any a A c w1 ((ha.on hB).on h) hla
  simp only [List.length_map] at Ha
  replace Ha := Lib.hid Ha
  have Hb := fun w1 (h : Below W.heap.size W w1) => oEach_any b B d w1 ((hb.on hB).on h) hlb
  simp only [List.length_map] at Hb
  replace Hb := Lib.hid Hb
  have HC : Hid (∀ b1 w1 w2, CmpC Rp2 (ltR o) 56 #[] #[.pointer (some ⟨b1, 0, none⟩)] w1.heap.size w1 → w2 = w1.alloc (.cells #[.func (.func 56) #[] #[.pointer (some ⟨b1, 0, none⟩)]] 65) →
      Below w1.heap.size w1 w2 ∧ ∀ A' c' B' d' w3 w4, Below w2.heap.size w2 w3 → Below w3.heap.size w3 w4 → Rp3 (· < w3.heap.size) w3 (a.map Li.mb) (.slice A' a.length c') → Rp3 (· < w4.heap.size) w4 (b.map Li.mb) (.slice B' b.length d') →
        Calls Try.prog 34 #[.slice A' a.length c', .slice B' b.length d', .pointer (some ⟨w1.heap.size, 0, none⟩)] w4 fun e w' => e = .returned (.int .i64 (clsO o a b)) ∧ Below w4.heap.size w4 w') := Lib.hid fun b1 w1 w2 hC e2 => by
    have hb2 : Below w1.heap.size w1 w2 := by rw [e2]; exact (Below.refl _ _).alloc (Nat.le_refl _) _
    have z2 : w2.heap.size = w1.heap.size + 1 := by rw [e2]; simp
    have p2 : w2.heap[w1.heap.size]? = some (.cells #[.func (.func 56) #[] #[.pointer (some ⟨b1, 0, none⟩)]] 65) := by rw [e2]; exact heap_alloc_new w1 _
    refine ⟨hb2, fun A' c' B' d' w3 w4 h3 h4 hR1 hR2 => ?_⟩
    have C2 : CmpC Rp2 (ltR o) 56 #[] #[.pointer (some ⟨b1, 0, none⟩)] w2.heap.size w2 := ⟨hC.ent, fun x y vx vy v hb => hC.call x y vx vy v (hb2.trans (hb.mono hb2.size))⟩
    have C3 := mul_cmp3 C2 (mulR_in4 _) (cells_one p2).1 (by omega) (Nat.le_refl _)
    have h24 := h3.trans (h4.mono h3.size)
    exact C3.call (a.map Li.mb) (b.map Li.mb) _ _ w4 h24 (hR1.to (fun g e => h4.block g e) fun _ e => Nat.lt_of_lt_of_le e h4.size) hR2
  clear hW hM ha hb
  go_enter Try.func8, Try.ntmps8
  go_upto_region 1 with fail
  rw [HW.out]
  go_wp2_with (first
    | (go_at_call 22; (with_reducible refine HL.out.mono ?_); go_must (rintro e w1 ⟨b1, rfl, hC, hb1⟩; have HC1 := Lib.hid hC; clear hC))
    | (go_at_call 21; (with_reducible refine (oMul3_eq _ _ _ w1).mono ?_); go_must (rintro e w2 ⟨rfl, h2⟩; obtain ⟨hb2, hc2⟩ := HC.out b1 w1 w2 HC1.out h2; have HC2 := Lib.hid hc2; have hB2 := hb1.trans (hb2.mono hb1.size); have Ha2 := Lib.hid (Ha.out w2 hB2); clear h2 hc2))
    | (go_at_call 23; first
      | ((with_reducible refine Ha2.out.mono ?_); go_must (rintro e w3 ⟨A', c', rfl, hR, hb3⟩; have HR3 := Lib.hid hR; have hB3 := hB2.trans (hb3.mono hB2.size); have Hb3 := Lib.hid (Hb.out w3 hB3); clear hR Ha2))
      | ((with_reducible refine Hb3.out.mono ?_); go_must (rintro e w4 ⟨B', d', rfl, hR, hb4⟩; have HD := Lib.hid (HC2.out A' c' B' d' w3 w4 hb3 hb4 HR3.out hR); have hB4 := hB3.trans (hb4.mono hB3.size); clear hR)))
    | (go_at_call 34; (with_reducible refine HD.out.mono ?_); go_must (rintro e w5 ⟨rfl, hb5⟩))
    | fail)
  go_ret
  exact ⟨rfl, hB.trans ((hB4.trans (hb5.mono hB4.size)).mono hB.size)⟩

end Go.Proofs.Ytgjmodclgdkodaa

