import Derived.Test.YtfnncphkidhbpaaDoorP43Z1
import Derived.Deep.RegionHeld3
/- Ranks, in plain words: how two symbols stand, and which place one has. -/

namespace Go.Proofs.YtfnncphkidhbpaaDoor

open Go.RowKit
set_option maxRecDepth 100000

def unI (a : Int) : Int := if a = 1 then 1 else 0

def orI : List Int → Int
  | [] => 0
  | x :: xs => if x ≠ 0 then x else orI xs

def arP (l : List Sm) (f : Nat) : Int := ((l[f]?).map (·.arity)).getD 0

def cnP (n : List Int) (f : Nat) : Int := n.getD f 0

/-- How two symbols stand, by a way. -/
def byR (l : List Sm) (n : List Int) (b : Int) (f g : Nat) : Int :=
  if b = 0 then numI f g
  else if b = 1 then orI [numI (arP l f) (arP l g), numI f g]
  else if b = 2 then orI [numI (unI (arP l f)) (unI (arP l g)), numI (arP l f) (arP l g), numI f g]
  else if b = 3 then orI [numI (cnP n f) (cnP n g), numI f g]
  else orI [numI (cnP n g) (cnP n f), numI f g]

/-- The number that the document goes by first. -/
def kyR (l : List Sm) (n : List Int) (b : Int) (f : Nat) : Int :=
  if b = 1 then arP l f else if b = 2 then (if arP l f = 1 then 100 else arP l f) else if b = 3 then cnP n f else if b = 4 then - cnP n f else 0

/-- Does symbol i rank above symbol k? -/
def abvR (l : List Sm) (n : List Int) (b : Int) (i k : Nat) : Bool := decide (kyR l n b k < kyR l n b i ∨ (kyR l n b i = kyR l n b k ∧ k < i))

theorem orI_num {a b : Int} {r : Int} : (if numI a b ≠ 0 then numI a b else r) < 0 ↔ (a < b ∨ (a = b ∧ r < 0)) := by
  unfold numI
  repeat' split
  all_goals omega

theorem orI_one (x : Int) : orI [x] = x := by
  unfold orI; split
  · rfl
  · simp only [orI]; omega

theorem numI_neg {a b : Int} : numI a b < 0 ↔ a < b := by
  unfold numI
  repeat' split
  all_goals omega

theorem orI_two {a b x : Int} : orI [numI a b, x] < 0 ↔ (a < b ∨ (a = b ∧ x < 0)) := by
  rw [orI, orI_one]; exact orI_num

theorem orI_three {a b c d x : Int} : orI [numI a b, numI c d, x] < 0 ↔ (a < b ∨ (a = b ∧ (c < d ∨ (c = d ∧ x < 0)))) := by
  rw [orI]; rw [orI_num, orI_two]

theorem byR_abv {l : List Sm} {n : List Int} {b : Int} (h0 : 0 ≤ b) (h4 : b ≤ 4) (hA : ∀ f, arP l f ≤ 99) (f g : Nat) : byR l n b f g < 0 ↔ abvR l n b g f = true := by
  have hf := hA f
  have hg := hA g
  have hb : b = 0 ∨ b = 1 ∨ b = 2 ∨ b = 3 ∨ b = 4 := by omega
  unfold abvR
  rw [decide_eq_true_iff]
  rcases hb with rfl | rfl | rfl | rfl | rfl
  · simp only [byR, kyR, if_pos]
    rw [numI_neg]; simp
  · simp only [byR, kyR]
    rw [if_neg (by decide), if_pos (by decide), orI_two, numI_neg]
    simp only [if_true]
    omega
  · have e : ∀ f, kyR l n 2 f = if arP l f = 1 then 100 else arP l f := fun f => by simp [kyR]
    rw [e, e]
    unfold byR
    rw [if_neg (by decide), if_neg (by decide), if_pos (by decide), orI_three, numI_neg]
    unfold unI
    repeat' split
    all_goals omega
  · simp only [byR, kyR]
    rw [if_neg (by decide), if_neg (by decide), if_neg (by decide), if_pos (by decide), orI_two, numI_neg, if_neg (by decide), if_neg (by decide), if_pos (by decide), if_neg (by decide), if_neg (by decide), if_pos (by decide)]
    omega
  · simp only [byR, kyR]
    rw [if_neg (by decide), if_neg (by decide), if_neg (by decide), if_neg (by decide), orI_two, numI_neg, if_neg (by decide), if_neg (by decide), if_neg (by decide), if_pos (by decide), if_neg (by decide), if_neg (by decide), if_neg (by decide), if_pos (by decide)]
    omega

theorem abvR_irr (l : List Sm) (n : List Int) (b : Int) (i : Nat) : abvR l n b i i = false := by
  unfold abvR; rw [decide_eq_false_iff_not]; omega

theorem abvR_asym {l : List Sm} {n : List Int} {b : Int} {i k : Nat} (h : abvR l n b i k = true) : abvR l n b k i = false := by
  unfold abvR at *; rw [decide_eq_false_iff_not]; rw [decide_eq_true_iff] at h; omega

theorem abvR_trans {l : List Sm} {n : List Int} {b : Int} {i k j : Nat} (h : abvR l n b i k = true) (h' : abvR l n b k j = true) : abvR l n b i j = true := by
  unfold abvR at *; rw [decide_eq_true_iff] at *; omega

theorem abvR_tot {l : List Sm} {n : List Int} {b : Int} {i k : Nat} (h : abvR l n b i k = false) (hne : i ≠ k) : abvR l n b k i = true := by
  unfold abvR at *; rw [decide_eq_true_iff]; rw [decide_eq_false_iff_not] at h; omega

/-- In a row that rises, as many are below an element as stand ahead of it. -/
theorem countP_rise {up : Nat → Nat → Bool} (irr : ∀ a, up a a = false) (asym : ∀ a b, up a b = true → up b a = false) :
    ∀ {s : List Nat}, s.Pairwise (fun a b => up b a = true) → ∀ {j : Nat} {x : Nat}, s[j]? = some x → s.countP (fun k => up x k) = j
  | [], _, _, _, h => by simp at h
  | a :: t, hp, 0, x, h => by
    simp only [List.getElem?_cons_zero, Option.some.injEq] at h; subst h
    rw [List.countP_eq_zero]
    intro k hk
    rcases List.mem_cons.1 hk with rfl | hk
    · simp [irr]
    · simp [asym _ _ ((List.pairwise_cons.1 hp).1 k hk)]
  | a :: t, hp, j + 1, x, h => by
    rw [List.getElem?_cons_succ] at h
    have hx : x ∈ t := List.mem_of_getElem? h
    rw [List.countP_cons, countP_rise irr asym (List.pairwise_cons.1 hp).2 h, if_pos ((List.pairwise_cons.1 hp).1 x hx)]

/-- The document's own rank of a symbol. -/
def rnkR (l : List Sm) (n : List Int) (b : Int) (m i : Nat) : Nat := if i = 0 then 0 else 1 + (List.range' 1 (m - 1)).countP fun k => decide (k ≠ i) && abvR l n b i k

theorem rnkR_eq (l : List Sm) (n : List Int) (b : Int) (m : Nat) {i : Nat} (hi : i ≠ 0) : rnkR l n b m i = 1 + (List.range' 1 (m - 1)).countP (fun k => abvR l n b i k) := by
  unfold rnkR; rw [if_neg hi]
  congr 1
  apply List.countP_congr
  intro k _
  by_cases h : k = i
  · subst h; simp [abvR_irr]
  · simp [h]

/-- In a row of all symbols but $true that rises, one's rank is its place. -/
theorem rnkR_at {l : List Sm} {n : List Int} {b : Int} {m : Nat} {s : List Nat} (hp : s.Perm (List.range' 1 (m - 1))) (hs : s.Pairwise fun f g => abvR l n b g f = true) {j x : Nat} (hx : s[j]? = some x) : rnkR l n b m x = j + 1 := by
  have h1 : x ≠ 0 := by
    have := hp.mem_iff.1 (List.mem_of_getElem? hx)
    rw [List.mem_range'_1] at this; omega
  rw [rnkR_eq _ _ _ _ h1, ← hp.countP_eq, countP_rise (fun a => abvR_irr l n b a) (fun _ _ => abvR_asym) hs hx]; omega

theorem rnkR_lt {l : List Sm} {n : List Int} {b : Int} {m : Nat} {s : List Nat} (hp : s.Perm (List.range' 1 (m - 1))) (hs : s.Pairwise fun f g => abvR l n b g f = true) (hm : 0 < m) {i : Nat} (hi : i < m) : rnkR l n b m i < m := by
  by_cases h : i = 0
  · subst h; simpa [rnkR] using hm
  · have : i ∈ s := hp.mem_iff.2 (List.mem_range'_1.2 ⟨by omega, by omega⟩)
    obtain ⟨j, hj⟩ := List.mem_iff_getElem?.1 this
    rw [rnkR_at hp hs hj]
    have := (List.getElem?_eq_some_iff.1 hj).1
    have := hp.length_eq
    rw [List.length_range'] at this
    omega

end Go.Proofs.YtfnncphkidhbpaaDoor

/- kbo's each: a term and all that stands in it, till the function that is handed over says no. -/

namespace Go.Proofs.YtfnncphkidhbpaaDoor

open Go.RowKit Go.Shelf
set_option maxRecDepth 100000

section

variable {σ : Type} (vs : σ → Tm → σ × Bool)

mutual
def evT : σ → Tm → σ × Bool
  | s, .node f xs => if (vs s (.node f xs)).2 then evL (vs s (.node f xs)).1 xs else ((vs s (.node f xs)).1, false)
def evL : σ → List Tm → σ × Bool
  | s, [] => (s, true)
  | s, t :: ts => if (evT s t).2 then evL (evT s t).1 ts else ((evT s t).1, false)
end

end

section

variable {σ : Type} (V : σ → Tm → Prop) (vs : σ → Tm → σ × Bool)

mutual
/-- All that is asked on the way may be asked. -/
def okT : σ → Tm → Prop
  | s, .node f xs => V s (.node f xs) ∧ ((vs s (.node f xs)).2 = true → okL (vs s (.node f xs)).1 xs)
def okL : σ → List Tm → Prop
  | _, [] => True
  | s, t :: ts => okT s t ∧ ((evT vs s t).2 = true → okL (evT vs s t).1 ts)
end

end

theorem okL_drop {σ : Type} {V : σ → Tm → Prop} {vs : σ → Tm → σ × Bool} {s : σ} {xs : List Tm} {k : Nat} {u : Tm} (h : xs[k]? = some u) (hk : okL V vs s (xs.drop k)) : okT V vs s u ∧ ((evT vs s u).2 = true → okL V vs (evT vs s u).1 (xs.drop (k + 1))) := by
  obtain ⟨h1, h2⟩ := List.getElem?_eq_some_iff.1 h
  rw [List.drop_eq_getElem_cons h1, h2, okL] at hk
  exact hk

theorem evL_drop {σ : Type} {vs : σ → Tm → σ × Bool} {s : σ} {xs : List Tm} {k : Nat} {u : Tm} (h : xs[k]? = some u) : evL vs s (xs.drop k) = if (evT vs s u).2 then evL vs (evT vs s u).1 (xs.drop (k + 1)) else ((evT vs s u).1, false) := by
  obtain ⟨h1, h2⟩ := List.getElem?_eq_some_iff.1 h
  rw [List.drop_eq_getElem_cons h1, h2, evL]

/-- What is asked of the function that is handed over. -/
structure VisC {σ : Type} (V : σ → Tm → Prop) (vs : σ → Tm → σ × Bool) (k : FuncId) (cv : Array Value) (C D N : Nat → Prop) (I : σ → World → Prop) (B0 : Nat) : Prop where
  ent : ∀ (args : Array Value) (w : World), (callFunc k args).run Tryd.prog w = .ok (.enter k args) w
  call : ∀ (s : σ) (t : Tm) (A : Option Addr) (c : Nat) (W : World), B0 ≤ W.heap.size → I s W → I64 t.fn → V s t → ArgsN W N A t.args → Calls Tryd.prog k (#[.agg #[.int .i64 t.fn, .slice A t.args.length c]] ++ cv) W fun e W' => e = .returned (.bool (vs s t).2) ∧ I (vs s t).1 W' ∧ KeepsC C W W'
  stay : ∀ s W W', I s W → Keeps D W W' → I s W'
  cb : ∀ g, C g → g < B0
  db : ∀ g, D g → g < B0
  nb : ∀ g, N g → g < B0
  nc : ∀ g, N g → ¬ C g

def VisPost {σ : Type} (C : Nat → Prop) (I : σ → World → Prop) (r : σ × Bool) (w : World) (e : Ending) (w' : World) : Prop := e = .returned (.bool r.2) ∧ I r.1 w' ∧ KeepsC C w w'

section

variable {σ : Type} {V : σ → Tm → Prop} {vs : σ → Tm → σ × Bool} {k : FuncId} {cv : Array Value} {C D N : Nat → Prop} {I : σ → World → Prop} {B0 : Nat}

@[local go_sem] theorem run_store_visit {P : Program} {w : World} {a : Addr} {m : Mode} (f : Fn) (ts cs : Array Value) : (store a (.func f ts cs) m).run P w = stored P w a (.func f ts cs) m := run_store P w a _ m rfl

end

end Go.Proofs.YtfnncphkidhbpaaDoor

/- kbo: weights of tops, what an order knows, relations. -/

namespace Go.Proofs.YtfnncphkidhbpaaDoor

open Go.RowKit Go.Shelf
set_option maxRecDepth 100000

/-- An order, in plain words. -/
structure Odr where
  lpo : Bool
  prec : List Int
  wts : List Int
  var : Int

structure OdrM (w : World) (B : Nat) (o : Odr) (P Q : Option Addr) : Prop where
  p : Ints w B P o.prec
  q : Ints w B Q o.wts
  v : I64 o.var

theorem OdrM.on {w w' : World} {o : Odr} {P Q : Option Addr} (h : OdrM w w.heap.size o P Q) (hb : Below w.heap.size w w') : OdrM w' w'.heap.size o P Q := ⟨h.p.on hb, h.q.on hb, h.v⟩

theorem Ints.get {w : World} {B : Nat} {A : Option Addr} {l : List Int} (h : Ints w B A l) {i : Nat} {x : Int} (hx : l[i]? = some x) : ∃ b off, A = some ⟨b, off, none⟩ ∧ b < B ∧ w.cell? ⟨b, off + i, none⟩ = some (.int .i64 x) := by
  have hlt := (List.getElem?_eq_some_iff.1 hx).1
  obtain ⟨b, off, hA, hb, hc⟩ := h.ad (by omega)
  exact ⟨b, off, hA, hb, hc i x hx⟩

/-- A weight as it counts. -/
def capI (n : Int) : Int := max 0 (min n 2147483647)

theorem capI_bd (n : Int) : 0 ≤ capI n ∧ capI n ≤ 2147483647 := by unfold capI; omega

theorem capI_64 (n : Int) : I64 (capI n) := ⟨by have := (capI_bd n).1; omega, by have := (capI_bd n).2; omega⟩

def wtI (o : Odr) (f : Int) : Int := capI (if f < 0 then o.var else o.wts.getD f.toNat 0)

theorem wtI_bd (o : Odr) (f : Int) : 0 ≤ wtI o f ∧ wtI o f ≤ 2147483647 := capI_bd _

/-- A relation the other way round. -/
def relT (r : Int) : Int := if r = 1 then 3 else if r = 3 then 1 else r

/-- What a comparison of numbers says. -/
def relC (c : Int) : Int := if c > 0 then 3 else if c < 0 then 1 else 2

/-- Does an order know a term's top? -/
def knowTop (o : Odr) (f : Int) (n : Nat) : Bool := if f < 0 then decide (n = 0) else decide (f < (o.prec.length : Int)) && decide (f < (o.wts.length : Int))

mutual
def knowT (o : Odr) : Tm → Bool
  | .node f xs => knowTop o f xs.length && knowL o xs
def knowL (o : Odr) : List Tm → Bool
  | [] => true
  | t :: ts => knowT o t && knowL o ts
end

theorem cells_four {W : World} {b : Nat} {x y z u : Value} {t : TypeId} (h : W.heap[b]? = some (.cells #[x, y, z, u] t)) : W.cell? ⟨b, 0, none⟩ = some x ∧ W.cell? ⟨b, 1, none⟩ = some y ∧ W.cell? ⟨b, 2, none⟩ = some z ∧ W.cell? ⟨b, 3, none⟩ = some u := by
  refine ⟨?_, ?_, ?_, ?_⟩ <;> simp [World.cell?, h]

def kvis (o : Odr) (s : Unit) (t : Tm) : Unit × Bool := (s, knowTop o t.fn t.args.length)

theorem ev_know (o : Odr) (t : Tm) : (evT (kvis o) () t).2 = knowT o t := by
  have key : ∀ xs : List Tm, (∀ t ∈ xs, (evT (kvis o) () t).2 = knowT o t) → (evL (kvis o) () xs).2 = knowL o xs := by
    intro xs
    induction xs with
    | nil => intro _; simp only [evL, knowL]
    | cons x xs ih =>
      intro h
      simp only [evL, knowL, ← h x (by simp)]
      split
      · rename_i hh
        rw [ih fun t ht => h t (by simp [ht]), hh, Bool.true_and]
      · rename_i hh
        rw [Bool.not_eq_true] at hh
        rw [hh, Bool.false_and]
  refine Tm.ind (P := fun t => (evT (kvis o) () t).2 = knowT o t) (fun f xs ih => ?_) t
  have e : (kvis o () (.node f xs)).2 = knowTop o f xs.length := rfl
  rw [evT, knowT, ← e]
  split
  · rename_i hh
    rw [hh, Bool.true_and]
    exact key xs ih
  · rename_i hh
    rw [Bool.not_eq_true] at hh
    rw [hh, Bool.false_and]

theorem ok_true {σ : Type} (vs : σ → Tm → σ × Bool) (t : Tm) : ∀ s, okT (fun _ _ => True) vs s t := by
  have key : ∀ xs : List Tm, (∀ t ∈ xs, ∀ s, okT (fun _ _ => True) vs s t) → ∀ s, okL (fun _ _ => True) vs s xs := by
    intro xs
    induction xs with
    | nil => intro _ s; simp only [okL]
    | cons x xs ih => intro h s; rw [okL]; exact ⟨h x (by simp) s, fun _ => ih (fun t ht => h t (by simp [ht])) _⟩
  refine Tm.ind (P := fun t => ∀ s, okT (fun _ _ => True) vs s t) (fun f xs ih s => ?_) t
  rw [okT]
  exact ⟨trivial, fun _ => key xs ih _⟩

end Go.Proofs.YtfnncphkidhbpaaDoor

/- The document's own: ranks, highest (of a row of numbers). -/

namespace Go.Proofs.YtfnncphkidhbpaaDoor

open Go.RowKit
set_option maxRecDepth 100000

/-- Is another one higher? -/
def overI (p : List Int) (i k : Nat) : Bool := decide (k ≠ i) && decide (p.getD i 0 < p.getD k 0)

def highB (p : List Int) (i : Nat) : Bool := (List.range p.length).all fun k => !overI p i k

theorem highB_no {p : List Int} {i k : Nat} (hk : k < p.length) (h : overI p i k = true) : highB p i = false := by
  unfold highB
  rw [List.all_eq_false]
  exact ⟨k, List.mem_range.2 hk, by rw [h]; decide⟩

theorem highB_yes {p : List Int} {i : Nat} (h : ∀ j, j < p.length → overI p i j = false) : highB p i = true := by
  unfold highB
  rw [List.all_eq_true]
  intro j hj
  rw [h j (List.mem_range.1 hj)]; rfl

theorem all_next {f : Nat → Bool} {k : Nat} (h : ∀ j, j < k → f j = false) (hk : f k = false) : ∀ j, j < k + 1 → f j = false := by
  intro j hj
  by_cases e : j = k
  · subst e; exact hk
  · exact h j (by omega)

theorem getD_of {p : List Int} {i : Nat} {x : Int} (h : p[i]? = some x) : p.getD i 0 = x := by rw [List.getD_eq_getElem?_getD, h]; rfl

theorem drewN_two (w : World) (a b : Nat) : (w.drewN a).drewN b = w.drewN (a + b) := by simp

/-- Is something wrong with number i? -/
def badR (p : List Int) (i : Nat) : Bool := (decide (0 < i) && decide (p.getD i 0 ≤ p.getD 0 0)) || (List.range i).any fun k => decide (p.getD i 0 = p.getD k 0)

def rankB (p : List Int) (n : Nat) : Bool := decide (p.length = n) && (List.range n).all fun i => !badR p i

theorem rankB_no {p : List Int} {n i : Nat} (hi : i < n) (h : badR p i = true) : rankB p n = false := by
  unfold rankB
  rw [Bool.and_eq_false_iff]; right
  rw [List.all_eq_false]
  exact ⟨i, List.mem_range.2 hi, by rw [h]; decide⟩

theorem rankB_yes {p : List Int} {n : Nat} (hl : p.length = n) (h : ∀ j, j < n → badR p j = false) : rankB p n = true := by
  unfold rankB
  rw [Bool.and_eq_true, List.all_eq_true]
  exact ⟨decide_eq_true hl, fun j hj => by rw [h j (List.mem_range.1 hj)]; rfl⟩

theorem badR_same {p : List Int} {i k : Nat} (hk : k < i) (h : p.getD i 0 = p.getD k 0) : badR p i = true := by
  unfold badR
  rw [Bool.or_eq_true]; right
  rw [List.any_eq_true]
  exact ⟨k, List.mem_range.2 hk, decide_eq_true h⟩

theorem badR_first {p : List Int} {i : Nat} (hk : 0 < i) (h : p.getD i 0 ≤ p.getD 0 0) : badR p i = true := by
  unfold badR
  rw [Bool.or_eq_true]; left
  simp [hk]; simpa using h

theorem badR_no {p : List Int} {i : Nat} (h0 : ¬ (0 < i ∧ p.getD i 0 ≤ p.getD 0 0)) (h : ∀ j, j < i → decide (p.getD i 0 = p.getD j 0) = false) : badR p i = false := by
  unfold badR
  rw [Bool.or_eq_false_iff, List.any_eq_false]
  refine ⟨?_, fun j hj => by rw [h j (List.mem_range.1 hj)]; decide⟩
  rw [← Bool.decide_and]
  exact decide_eq_false h0

end Go.Proofs.YtfnncphkidhbpaaDoor

/- The plain check of a signature. -/

namespace Go.Proofs.YtfnncphkidhbpaaDoor

open Go.RowKit

/-- What is wrong at place i (from 1 on): 0 if nothing. -/
def errAt (l : List Sm) (i : Nat) : Int :=
  match l[i]? with
  | none => 0
  | some x => if oneI x.name x.arity ≠ 0 then oneI x.name x.arity else if atI l x < i then 113 else 0

def scanI (l : List Sm) : Int := match (List.range l.length).find? (fun j => decide (1 ≤ j) && !decide (errAt l j = 0)) with
  | some j => errAt l j
  | none => 0

def checkI (l : List Sm) : Int := if 96 < l.length then 3 else if l[0]? ≠ some truthSm then 110 else scanI l

theorem scan_hit {l : List Sm} {k : Nat} (hk : 1 ≤ k) (hl : k < l.length) (hv : errAt l k ≠ 0) (h : ∀ j, 1 ≤ j → j < k → errAt l j = 0) : scanI l = errAt l k := by
  have : (List.range l.length).find? (fun j => decide (1 ≤ j) && !decide (errAt l j = 0)) = some k := by
    rw [List.find?_range_eq_some]
    refine ⟨by simp [hk, hv], List.mem_range.2 hl, fun j hj => ?_⟩
    by_cases h1 : 1 ≤ j
    · simp [h j h1 hj]
    · simp [h1]
  simp [scanI, this]

theorem scan_miss {l : List Sm} (h : ∀ j, 1 ≤ j → j < l.length → errAt l j = 0) : scanI l = 0 := by
  have : (List.range l.length).find? (fun j => decide (1 ≤ j) && !decide (errAt l j = 0)) = none := by
    rw [List.find?_eq_none]
    intro j hj
    by_cases h1 : 1 ≤ j
    · simp [h j h1 (List.mem_range.1 hj)]
    · simp [h1]
  simp [scanI, this]

theorem err_one {l : List Sm} {k : Nat} {y : Sm} (hy : l[k]? = some y) (h : oneI y.name y.arity ≠ 0) : errAt l k = oneI y.name y.arity := by simp [errAt, hy, h]

theorem err_same {l : List Sm} {k : Nat} {y : Sm} (hy : l[k]? = some y) (h : oneI y.name y.arity = 0) (ha : atI l y < k) : errAt l k = 113 := by simp [errAt, hy, h, ha]

theorem err_ok {l : List Sm} {k : Nat} {y : Sm} (hy : l[k]? = some y) (h : oneI y.name y.arity = 0) (ha : ¬ atI l y < k) : errAt l k = 0 := by simp [errAt, hy, h, ha]

theorem scan_at {l : List Sm} {k : Nat} {v : Int} (hk : 1 ≤ k) (h : ∀ j, 1 ≤ j → j < k → errAt l j = 0) (he : errAt l k = v) (hv : v ≠ 0) : scanI l = v := by
  refine (scan_hit hk ?_ (by rw [he]; exact hv) h).trans he
  rcases Nat.lt_or_ge k l.length with h1 | h1
  · exact h1
  · exact absurd (by simpa [errAt, List.getElem?_eq_none h1] using he.symm) hv

theorem err_before {l : List Sm} {k : Nat} (h : ∀ j, 1 ≤ j → j < k → errAt l j = 0) (hk : errAt l k = 0) : ∀ j, 1 ≤ j → j < k + 1 → errAt l j = 0 := by
  intro j h1 hlt
  by_cases e : j = k
  · subst e; exact hk
  · exact h j h1 (by omega)

end Go.Proofs.YtfnncphkidhbpaaDoor

