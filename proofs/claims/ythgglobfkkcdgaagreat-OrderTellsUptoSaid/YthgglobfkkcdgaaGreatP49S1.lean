import Derived.Test.YthgglobfkkcdgaaGreatProg
import Derived.WalkKit
import Derived.WalkSpells
import Derived.WalkLawsBesides
import Derived.Lib.Hide
import Derived.Below
import Derived.Laws.OwnMore
import Derived.Deep.AppendLies
import Derived.Deep.Draws
import Derived.Laws.StructEq
import Derived.BigQuiet
import Derived.Deep.QuietTactic
import Derived.RangeFuncNested
import Derived.RangeFuncBound
import Derived.RangeFuncCalls
import Derived.RangeFuncLeaves
import Derived.Maps.AppendAt
import Derived.OwnWalk
import Derived.Deep.RegionHeld3
import Derived.Shelf.Abstract
import Derived.Shelf.RegionOpen
import Derived.OwnWalkIn
import Derived.TacticsInMore
import Derived.LoopNIn
import Derived.LoopIn
import Derived.Deep.DeepCutAuto
import Derived.WalkMore
import Derived.RangeFuncBox
namespace Go.Proofs.YthgglobfkkcdgaaGreat
open Go.RowKit
theorem ret_int {k : IntKind} {a b : Int} (h : a = b) : Ending.returned (.int k a) = .returned (.int k b) := by rw [h]
theorem ret_bool {a b : Bool} (h : a = b) : Ending.returned (.bool a) = .returned (.bool b) := by rw [h]
theorem bl_drewN {B : Nat} {a w : World} (h : Below B a w) (n : Nat) : Below B a (w.drewN n) := ⟨h.os, h.tape, h.output, h.size, h.block⟩
theorem bl_step {w w1 w2 : World} (h : Below w.heap.size w w1) (h' : Below w1.heap.size w1 w2) : Below w.heap.size w w2 := h.trans (h'.mono h.size)
structure Sm where
  name : ByteArray
  arity : Int
  pred : Bool
  deriving DecidableEq
instance : Inhabited Sm := ⟨⟨ByteArray.empty, 0, false⟩⟩
section
variable {w w' : World} {B B' n : Nat} {A : Option Addr} {l : List Sm}
end
end Go.Proofs.YthgglobfkkcdgaaGreat
namespace Go.Proofs.YthgglobfkkcdgaaGreat
open Go.RowKit
inductive Tm where
  | node (f : Int) (xs : List Tm)
def Tm.fn : Tm → Int
  | .node f _ => f
def Tm.args : Tm → List Tm
  | .node _ xs => xs
theorem Tm.ind {P : Tm → Prop} (h : ∀ f xs, (∀ t ∈ xs, P t) → P (.node f xs)) (t : Tm) : P t :=
  Tm.rec (motive_1 := P) (motive_2 := fun xs => ∀ t ∈ xs, P t) (fun f xs ih => h f xs ih) (by simp) (fun t ts h1 h2 => by simp only [List.mem_cons]; rintro u (rfl | hu); exact h1; exact h2 _ hu) t
mutual
def Tm.size : Tm → Nat
  | .node _ xs => sizes xs + 1
def sizes : List Tm → Nat
  | [] => 0
  | t :: ts => t.size + sizes ts
end
mutual
def Tm.depth : Tm → Nat
  | .node _ xs => depths xs + 1
def depths : List Tm → Nat
  | [] => 0
  | t :: ts => max t.depth (depths ts)
end
theorem size_mem {t : Tm} {xs : List Tm} (h : t ∈ xs) : t.size ≤ sizes xs := by
  induction xs with
  | nil => simp at h
  | cons a xs ih =>
    simp only [List.mem_cons] at h
    simp only [sizes]
    rcases h with rfl | h
    · omega
    · have := ih h; omega
theorem depth_mem {t : Tm} {xs : List Tm} (h : t ∈ xs) : t.depth ≤ depths xs := by
  induction xs with
  | nil => simp at h
  | cons a xs ih =>
    simp only [List.mem_cons] at h
    simp only [depths]
    rcases h with rfl | h
    · omega
    · have := ih h; omega
theorem size_pos (t : Tm) : 1 ≤ t.size := by cases t; simp only [Tm.size]; omega
theorem sizes_len (xs : List Tm) : xs.length ≤ sizes xs := by
  induction xs with
  | nil => simp [sizes]
  | cons a xs ih => have := size_pos a; simp only [List.length_cons, sizes]; omega
def headI (f g : Int) : Int := if f = g then 0 else if f < 0 ∧ g < 0 then (if g < f then -1 else 1) else if f < g then -1 else 1
def numI (a b : Int) : Int := if a < b then -1 else if b < a then 1 else 0
mutual
def cmpT : Tm → Tm → Int
  | .node f xs, u => if headI f u.fn ≠ 0 then headI f u.fn else if cmpL xs u.args ≠ 0 then cmpL xs u.args else numI xs.length u.args.length
def cmpL : List Tm → List Tm → Int
  | [], _ => 0
  | a :: xs, bs => match bs with
    | [] => 0
    | b :: bs => if cmpT a b ≠ 0 then cmpT a b else cmpL xs bs
end
theorem cmpT_eq (t u : Tm) : cmpT t u = if headI t.fn u.fn ≠ 0 then headI t.fn u.fn else if cmpL t.args u.args ≠ 0 then cmpL t.args u.args else numI t.args.length u.args.length := by
  cases t; simp only [cmpT, Tm.fn, Tm.args]; rfl
theorem cmpL_hit : ∀ {xs bs : List Tm} {k : Nat} {a b : Tm}, xs[k]? = some a → bs[k]? = some b → (∀ j x y, j < k → xs[j]? = some x → bs[j]? = some y → cmpT x y = 0) → cmpT a b ≠ 0 → cmpL xs bs = cmpT a b
  | [], _, _, _, _, h, _, _, _ => by simp at h
  | x :: xs, [], _, _, _, _, h, _, _ => by simp at h
  | x :: xs, y :: bs, 0, a, b, h1, h2, _, hne => by
    simp at h1 h2
    subst h1; subst h2
    simp only [cmpL, if_pos hne]
  | x :: xs, y :: bs, k + 1, a, b, h1, h2, h, hne => by
    have h0 := h 0 x y (by omega) rfl rfl
    simp only [cmpL, h0, ne_eq, not_true_eq_false, if_false]
    exact cmpL_hit (by simpa using h1) (by simpa using h2) (fun j x' y' hj hx hy => h (j + 1) x' y' (by omega) (by simpa using hx) (by simpa using hy)) hne
theorem cmpL_miss : ∀ {xs bs : List Tm}, (∀ (j : Nat) (x y : Tm), xs[j]? = some x → bs[j]? = some y → cmpT x y = 0) → cmpL xs bs = 0
  | [], _, _ => by simp only [cmpL]
  | x :: xs, [], _ => by simp only [cmpL]
  | x :: xs, y :: bs, h => by
    have h0 := h 0 x y rfl rfl
    simp only [cmpL, h0, ne_eq, not_true_eq_false, if_false]
    exact cmpL_miss fun j x' y' hx hy => h (j + 1) x' y' (by simpa using hx) (by simpa using hy)
def I64 (i : Int) : Prop := -9223372036854775808 ≤ i ∧ i ≤ 9223372036854775807
inductive Args (w : World) (B : Nat) : Option Addr → List Tm → Prop
  | nil (A : Option Addr) : Args w B A []
  | row (b off : Nat) (xs : List Tm) (A' : Nat → Option Addr) (c' : Nat → Nat) (hb : b < B) (hlen : xs.length ≤ 9223372036854775807) (hi : ∀ (i : Nat) (t : Tm), xs[i]? = some t → I64 t.fn)
      (h0 : ∀ (i : Nat) (t : Tm), xs[i]? = some t → w.cell? ⟨b, off + i * 2, none⟩ = some (.int .i64 t.fn))
      (h1 : ∀ (i : Nat) (t : Tm), xs[i]? = some t → w.cell? ⟨b, off + i * 2 + 1, none⟩ = some (.slice (A' i) t.args.length (c' i)))
      (hs : ∀ (i : Nat) (t : Tm), xs[i]? = some t → Args w B (A' i) t.args) : Args w B (some ⟨b, off, none⟩) xs
section
variable {w w' : World} {B B' : Nat} {A : Option Addr} {xs : List Tm}
theorem Args.keep (h : Args w B A xs) (hk : ∀ p : Addr, p.block < B → w'.cell? p = w.cell? p) : Args w' B A xs := by
  induction h with
  | nil A => exact .nil A
  | row b off xs A' c' hb hlen hi h0 h1 _ ih => exact .row b off xs A' c' hb hlen hi (fun i t e => (hk ⟨b, _, none⟩ hb).trans (h0 i t e)) (fun i t e => (hk ⟨b, _, none⟩ hb).trans (h1 i t e)) ih
theorem Args.blw (h : Args w B A xs) (hb : Below B w w') : Args w' B A xs := h.keep fun _ hp => hb.cell hp
theorem Args.more (h : Args w B A xs) (hB : B ≤ B') : Args w B' A xs := by
  induction h with
  | nil A => exact .nil A
  | row b off xs A' c' hb hlen hi h0 h1 _ ih => exact .row b off xs A' c' (by omega) hlen hi h0 h1 ih
theorem Args.on (h : Args w w.heap.size A xs) (hb : Below w.heap.size w w') : Args w' w'.heap.size A xs := (h.blw hb).more hb.size
theorem Args.drewN (h : Args w B A xs) (k : Nat) : Args (w.drewN k) B A xs := h.keep fun _ _ => rfl
theorem Args.len (h : Args w B A xs) : xs.length ≤ 9223372036854775807 := by
  cases h with
  | nil => simp
  | row => assumption
structure ArgAt (w : World) (B b off i : Nat) (t : Tm) (A' : Option Addr) (c' : Nat) : Prop where
  hb : b < B
  hi : I64 t.fn
  c0 : w.cell? ⟨b, off + i * 2, none⟩ = some (.int .i64 t.fn)
  c1 : w.cell? ⟨b, off + i * 2 + 1, none⟩ = some (.slice A' t.args.length c')
  sub : Args w B A' t.args
theorem Args.get (h : Args w B A xs) {i : Nat} {t : Tm} (hi : xs[i]? = some t) : ∃ b off A' c', A = some ⟨b, off, none⟩ ∧ ArgAt w B b off i t A' c' := by
  cases h with
  | nil => simp at hi
  | row b off _ A' c' hb hlen hi' h0 h1 hs => exact ⟨b, off, A' i, c' i, rfl, hb, hi' i t hi, h0 i t hi, h1 i t hi, hs i t hi⟩
end
end Go.Proofs.YthgglobfkkcdgaaGreat
namespace Go.Proofs.YthgglobfkkcdgaaGreat
open Go.RowKit
set_option maxRecDepth 20000
def trnI (r : Int) : Int := if r = 1 then 3 else if r = 3 then 1 else r
def strike {α : Type} (rel : α → α → Int) (a : α) : List α → Option (List α)
  | [] => none
  | x :: l => if rel a x = 2 then some l else (strike rel a l).map (x :: ·)
def leftM {α : Type} (rel : α → α → Int) : List α → List α → List α × List α
  | [], n => ([], n)
  | a :: m, n =>
    match strike rel a n with
    | some n' => leftM rel m n'
    | none => (a :: (leftM rel m n).1, (leftM rel m n).2)
def relM {α : Type} (rel : α → α → Int) (r c : List α) : Int :=
  if r.isEmpty && c.isEmpty then 2
  else if c.all (fun y => r.any (fun x => rel x y == 3)) then 3
  else if r.all (fun x => c.any (fun y => rel x y == 1)) then 1 else 0
def mulR {α : Type} (rel : α → α → Int) (m n : List α) : Int := relM rel (leftM rel m n).1 (leftM rel m n).2
def In4 (r : Int) : Prop := r = 0 ∨ r = 1 ∨ r = 2 ∨ r = 3
theorem relM_in4 {α : Type} (rel : α → α → Int) (r c : List α) : In4 (relM rel r c) := by
  unfold relM In4; split
  · simp
  · split
    · simp
    · split <;> simp
theorem mulR_in4 {α : Type} (rel : α → α → Int) (m n : List α) : In4 (mulR rel m n) := relM_in4 _ _ _
theorem mulR_one {α : Type} {rel : α → α → Int} {a b : α} (h : In4 (rel a b)) : mulR rel [a] [b] = rel a b := by
  unfold mulR
  rcases h with h | h | h | h <;> simp [leftM, strike, relM, h]
structure OrdOn {α : Type} (rel : α → α → Int) (D : α → Prop) : Prop where
  self : ∀ {x}, D x → rel x x = 2
  turn : ∀ {x y}, D x → D y → rel y x = trnI (rel x y)
  trans : ∀ {x y z}, D x → D y → D z → rel x y = 3 → rel y z = 3 → rel x z = 3
  cong : ∀ {x y z}, D x → D y → D z → rel x y = 2 → rel x z = rel y z
  in4 : ∀ {x y}, D x → D y → In4 (rel x y)
section
variable {α : Type} {rel : α → α → Int} {D : α → Prop}
theorem OrdOn.congR (h : OrdOn rel D) {x y z : α} (hx : D x) (hy : D y) (hz : D z) (e : rel x y = 2) : rel z x = rel z y := by
  rw [h.turn hx hz, h.turn hy hz, h.cong hx hy hz e]
theorem OrdOn.one (h : OrdOn rel D) {x y : α} (hx : D x) (hy : D y) : rel x y = 1 ↔ rel y x = 3 := by
  rw [h.turn hx hy]
  rcases h.in4 hx hy with e | e | e | e <;> rw [e] <;> decide
def cntM (rel : α → α → Int) (z : α) (l : List α) : Nat := l.countP fun x => rel z x == 2
theorem cnt_nil (z : α) : cntM rel z [] = 0 := rfl
theorem cnt_cons (z x : α) (l : List α) : cntM rel z (x :: l) = cntM rel z l + if rel z x = 2 then 1 else 0 := by
  unfold cntM
  rw [List.countP_cons]
  by_cases h : rel z x = 2 <;> simp [h]
theorem cnt_pos {z : α} {l : List α} : 0 < cntM rel z l ↔ ∃ x ∈ l, rel z x = 2 := by
  unfold cntM
  rw [List.countP_pos_iff]
  simp
theorem cnt_cong (h : OrdOn rel D) {x y : α} {l : List α} (hx : D x) (hy : D y) (hl : ∀ z ∈ l, D z) (e : rel x y = 2) : cntM rel x l = cntM rel y l := by
  induction l with
  | nil => rfl
  | cons z l ih =>
    rw [cnt_cons, cnt_cons, ih (fun u hu => hl u (by simp [hu])), h.cong hx hy (hl z (by simp)) e]
theorem maxM (h : OrdOn rel D) : ∀ (l : List α), (∀ x ∈ l, D x) → l ≠ [] → ∃ x ∈ l, ∀ y ∈ l, rel y x ≠ 3
  | [], _, hn => absurd rfl hn
  | [a], hl, _ => ⟨a, by simp, fun y hy => by
      rw [List.mem_singleton] at hy; subst hy
      rw [h.self (hl y (by simp))]; decide⟩
  | a :: b :: l, hl, _ => by
    obtain ⟨x, hx, hm⟩ := maxM h (b :: l) (fun y hy => hl y (List.mem_cons_of_mem _ hy)) (by simp)
    have hDx := hl x (List.mem_cons_of_mem _ hx)
    have hDa := hl a (by simp)
    by_cases e : rel a x = 3
    · refine ⟨a, by simp, fun y hy => ?_⟩
      rcases List.mem_cons.1 hy with rfl | hy
      · rw [h.self hDa]; decide
      · exact fun e2 => hm y hy (h.trans (hl y (List.mem_cons_of_mem _ hy)) hDa hDx e2 e)
    · refine ⟨x, List.mem_cons_of_mem _ hx, fun y hy => ?_⟩
      rcases List.mem_cons.1 hy with rfl | hy
      · exact e
      · exact hm y hy
theorem maxS (h : OrdOn rel D) {S : α → Prop} {l : List α} (hl : ∀ x ∈ l, D x) (hS : ∀ x, D x → S x → 0 < cntM rel x l) (hc : ∀ x y, D x → D y → rel x y = 2 → S x → S y) (hx : ∃ x, D x ∧ S x) :
    ∃ x, D x ∧ S x ∧ ∀ y, D y → S y → rel y x ≠ 3 := by
  classical
  obtain ⟨x, hDx, hSx⟩ := hx
  obtain ⟨x', hx', e⟩ := cnt_pos.1 (hS x hDx hSx)
  have hSx' := hc x x' hDx (hl x' hx') e hSx
  obtain ⟨u, hu, hm⟩ := maxM h (l.filter fun x => decide (S x)) (fun y hy => hl y (List.mem_filter.1 hy).1) (fun e => by
    have : x' ∈ l.filter fun x => decide (S x) := List.mem_filter.2 ⟨hx', by simpa using hSx'⟩
    rw [e] at this; simp at this)
  obtain ⟨hul, huS⟩ := List.mem_filter.1 hu
  refine ⟨u, hl u hul, by simpa using huS, fun y hDy hSy => ?_⟩
  obtain ⟨y', hy', e'⟩ := cnt_pos.1 (hS y hDy hSy)
  have hSy' := hc y y' hDy (hl y' hy') e' hSy
  have := hm y' (List.mem_filter.2 ⟨hy', by simpa using hSy'⟩)
  rwa [h.cong hDy (hl y' hy') (hl u hul) e']
theorem strike_none {a : α} : ∀ {l : List α}, strike rel a l = none → ∀ x ∈ l, rel a x ≠ 2
  | [], _, x, hx => by simp at hx
  | y :: l, e, x, hx => by
    unfold strike at e
    split at e
    · simp at e
    · rename_i hy
      rcases List.mem_cons.1 hx with rfl | hx
      · exact hy
      · exact strike_none (by simpa using e) x hx
theorem strike_sub {a : α} : ∀ {l l' : List α}, strike rel a l = some l' → ∀ x ∈ l', x ∈ l
  | [], l', e, x, hx => by simp [strike] at e
  | y :: l, l', e, x, hx => by
    unfold strike at e
    split at e
    · simp only [Option.some.injEq] at e; subst e; simp [hx]
    · simp only [Option.map_eq_some_iff] at e
      obtain ⟨l2, e2, rfl⟩ := e
      rcases List.mem_cons.1 hx with rfl | hx
      · simp
      · exact List.mem_cons_of_mem _ (strike_sub e2 x hx)
theorem strike_cnt (h : OrdOn rel D) {f : α → α} (hfD : ∀ x, D x → D (f x)) (hf : ∀ x y, D x → D y → rel x y = 2 → rel (f x) (f y) = 2) {a z : α} (ha : D a) (hz : D z) :
    ∀ {l l' : List α}, (∀ x ∈ l, D x) → strike rel a l = some l' → cntM rel z (l.map f) = cntM rel z (l'.map f) + if rel z (f a) = 2 then 1 else 0
  | [], l', _, e => by simp [strike] at e
  | y :: l, l', hl, e => by
    have hy := hl y (by simp)
    unfold strike at e
    split at e
    · rename_i e2
      simp only [Option.some.injEq] at e; subst e
      rw [List.map_cons, cnt_cons, h.congR (hfD a ha) (hfD y hy) hz (hf a y ha hy e2)]
    · simp only [Option.map_eq_some_iff] at e
      obtain ⟨l2, e2, rfl⟩ := e
      rw [List.map_cons, List.map_cons, cnt_cons, cnt_cons, strike_cnt h hfD hf ha hz (fun x hx => hl x (by simp [hx])) e2]
      omega
theorem left_sub : ∀ (m n : List α), (∀ x ∈ (leftM rel m n).1, x ∈ m) ∧ (∀ x ∈ (leftM rel m n).2, x ∈ n)
  | [], n => ⟨fun x hx => by simp [leftM] at hx, fun x hx => by simpa [leftM] using hx⟩
  | a :: m, n => by
    unfold leftM
    split
    · rename_i n' e
      obtain ⟨h1, h2⟩ := left_sub m n'
      exact ⟨fun x hx => List.mem_cons_of_mem _ (h1 x hx), fun x hx => strike_sub e x (h2 x hx)⟩
    · obtain ⟨h1, h2⟩ := left_sub m n
      refine ⟨fun x hx => ?_, h2⟩
      rcases List.mem_cons.1 hx with rfl | hx
      · simp
      · exact List.mem_cons_of_mem _ (h1 x hx)
theorem left_apart : ∀ (m n : List α), ∀ x ∈ (leftM rel m n).1, ∀ y ∈ (leftM rel m n).2, rel x y ≠ 2
  | [], n, x, hx, _, _ => by simp [leftM] at hx
  | a :: m, n, x, hx, y, hy => by
    unfold leftM at hx hy
    split at hx
    · rename_i n' e
      rw [e] at hy
      exact left_apart m n' x hx y hy
    · rename_i e
      rw [e] at hy
      rcases List.mem_cons.1 hx with rfl | hx
      · exact strike_none e y ((left_sub m n).2 y hy)
      · exact left_apart m n x hx y hy
theorem left_cnt (h : OrdOn rel D) {f : α → α} (hfD : ∀ x, D x → D (f x)) (hf : ∀ x y, D x → D y → rel x y = 2 → rel (f x) (f y) = 2) {z : α} (hz : D z) :
    ∀ (m n : List α), (∀ x ∈ m, D x) → (∀ x ∈ n, D x) → cntM rel z (m.map f) + cntM rel z ((leftM rel m n).2.map f) = cntM rel z (n.map f) + cntM rel z ((leftM rel m n).1.map f)
  | [], n, _, _ => by simp [leftM, cnt_nil]
  | a :: m, n, hm, hn => by
    have ha := hm a (by simp)
    have hm' : ∀ x ∈ m, D x := fun x hx => hm x (by simp [hx])
    unfold leftM
    split
    · rename_i n' e
      have ih := left_cnt h hfD hf hz m n' hm' (fun x hx => hn x (strike_sub e x hx))
      have := strike_cnt h hfD hf ha hz hn e
      rw [List.map_cons, cnt_cons]
      omega
    · have ih := left_cnt h hfD hf hz m n hm' hn
      simp only [List.map_cons, cnt_cons]
      omega
theorem left_cnt1 (h : OrdOn rel D) {z : α} (hz : D z) (m n : List α) (hm : ∀ x ∈ m, D x) (hn : ∀ x ∈ n, D x) : cntM rel z m + cntM rel z (leftM rel m n).2 = cntM rel z n + cntM rel z (leftM rel m n).1 := by
  have := left_cnt h (f := id) (fun _ h => h) (fun _ _ _ _ e => e) hz m n hm hn
  simpa only [List.map_id] using this
theorem left_zero (h : OrdOn rel D) {z : α} (hz : D z) (m n : List α) (hm : ∀ x ∈ m, D x) (hn : ∀ x ∈ n, D x) : cntM rel z (leftM rel m n).1 = 0 ∨ cntM rel z (leftM rel m n).2 = 0 := by
  rcases Nat.eq_zero_or_pos (cntM rel z (leftM rel m n).1) with h1 | h1
  · exact .inl h1
  rcases Nat.eq_zero_or_pos (cntM rel z (leftM rel m n).2) with h2 | h2
  · exact .inr h2
  obtain ⟨x, hx, e1⟩ := cnt_pos.1 h1
  obtain ⟨y, hy, e2⟩ := cnt_pos.1 h2
  have hDx := hm x ((left_sub m n).1 x hx)
  have hDy := hn y ((left_sub m n).2 y hy)
  exact absurd (by rw [← h.cong hz hDx hDy e1]; exact e2) (left_apart m n x hx y hy)
def GtM (rel : α → α → Int) (D : α → Prop) (m n : List α) : Prop :=
  (∃ z, D z ∧ cntM rel z m ≠ cntM rel z n) ∧ ∀ y, D y → cntM rel y m < cntM rel y n → ∃ x, D x ∧ rel x y = 3 ∧ cntM rel x n < cntM rel x m
def EqM (rel : α → α → Int) (D : α → Prop) (m n : List α) : Prop := ∀ z, D z → cntM rel z m = cntM rel z n
theorem gt_asym (h : OrdOn rel D) {m n : List α} (hm : ∀ x ∈ m, D x) (hn : ∀ x ∈ n, D x) (h1 : GtM rel D m n) (h2 : GtM rel D n m) : False := by
  have hmn : ∀ x ∈ m ++ n, D x := fun x hx => (List.mem_append.1 hx).elim (hm x) (hn x)
  obtain ⟨u, hu, hS, hmx⟩ := maxS h (S := fun x => cntM rel x m ≠ cntM rel x n) hmn
    (fun x _ hx => by
      have : cntM rel x (m ++ n) = cntM rel x m + cntM rel x n := by unfold cntM; rw [List.countP_append]
      omega)
    (fun x y hx hy e hS => by rwa [← cnt_cong h hx hy hm e, ← cnt_cong h hx hy hn e]) h1.1
  rcases Nat.lt_or_gt_of_ne hS with hlt | hgt
  · obtain ⟨x, hx, e, hc⟩ := h1.2 u hu hlt
    exact hmx x hx (by omega) e
  · obtain ⟨x, hx, e, hc⟩ := h2.2 u hu hgt
    exact hmx x hx (by omega) e
theorem isE_iff (m n : List α) : ((leftM rel m n).1.isEmpty && (leftM rel m n).2.isEmpty) = true ↔ ((leftM rel m n).1 = [] ∧ (leftM rel m n).2 = []) := by
  rw [Bool.and_eq_true, List.isEmpty_iff, List.isEmpty_iff]
section
variable (h : OrdOn rel D) {m n : List α} (hm : ∀ x ∈ m, D x) (hn : ∀ x ∈ n, D x)
include h hm hn
theorem left_empty : ((leftM rel m n).1 = [] ∧ (leftM rel m n).2 = []) ↔ EqM rel D m n := by
  constructor
  · intro ⟨h1, h2⟩ z hz
    have := left_cnt1 h hz m n hm hn
    rw [h1, h2, cnt_nil] at this
    omega
  · intro e
    constructor
    · cases hr : (leftM rel m n).1 with
      | nil => rfl
      | cons x r =>
        have hxm : x ∈ (leftM rel m n).1 := by rw [hr]; simp
        have hx := hm x ((left_sub m n).1 x hxm)
        have h1 : 0 < cntM rel x (leftM rel m n).1 := cnt_pos.2 ⟨x, hxm, h.self hx⟩
        have h2 := left_cnt1 h hx m n hm hn
        have h3 := left_zero h hx m n hm hn
        have := e x hx
        omega
    · cases hr : (leftM rel m n).2 with
      | nil => rfl
      | cons x r =>
        have hxm : x ∈ (leftM rel m n).2 := by rw [hr]; simp
        have hx := hn x ((left_sub m n).2 x hxm)
        have h1 : 0 < cntM rel x (leftM rel m n).2 := cnt_pos.2 ⟨x, hxm, h.self hx⟩
        have h2 := left_cnt1 h hx m n hm hn
        have h3 := left_zero h hx m n hm hn
        have := e x hx
        omega
theorem left_gt (hne : ¬ ((leftM rel m n).1 = [] ∧ (leftM rel m n).2 = [])) : (∀ y ∈ (leftM rel m n).2, ∃ x ∈ (leftM rel m n).1, rel x y = 3) ↔ GtM rel D m n := by
  have hcn := fun z hz => left_cnt1 h (z := z) hz m n hm hn
  have hcz := fun z hz => left_zero h (z := z) hz m n hm hn
  have hr := fun x hx => hm x ((left_sub (rel := rel) m n).1 x hx)
  have hc := fun x hx => hn x ((left_sub (rel := rel) m n).2 x hx)
  constructor
  · intro ha
    refine ⟨?_, fun y hy hlt => ?_⟩
    · refine Classical.byContradiction fun hno => hne ((left_empty h hm hn).2 fun z hz => Classical.byContradiction fun e => hno ⟨z, hz, e⟩)
    · have h1 := hcn y hy
      obtain ⟨y', hy', e⟩ := cnt_pos.1 (show 0 < cntM rel y (leftM rel m n).2 by omega)
      obtain ⟨x, hx, e3⟩ := ha y' hy'
      refine ⟨x, hr x hx, by rw [h.congR hy (hc y' hy') (hr x hx) e]; exact e3, ?_⟩
      have h2 := hcn x (hr x hx)
      have h3 := hcz x (hr x hx)
      have h4 : 0 < cntM rel x (leftM rel m n).1 := cnt_pos.2 ⟨x, hx, h.self (hr x hx)⟩
      omega
  · intro ⟨_, hg⟩ y hy
    have hDy := hc y hy
    have h1 := hcn y hDy
    have h2 := hcz y hDy
    have h3 : 0 < cntM rel y (leftM rel m n).2 := cnt_pos.2 ⟨y, hy, h.self hDy⟩
    obtain ⟨x, hx, e, hlt⟩ := hg y hDy (by omega)
    have h4 := hcn x hx
    have h5 := hcz x hx
    obtain ⟨x', hx', e'⟩ := cnt_pos.1 (show 0 < cntM rel x (leftM rel m n).1 by omega)
    exact ⟨x', hx', by rw [← h.cong hx (hr x' hx') hDy e']; exact e⟩
theorem left_lt (hne : ¬ ((leftM rel m n).1 = [] ∧ (leftM rel m n).2 = [])) : (∀ x ∈ (leftM rel m n).1, ∃ y ∈ (leftM rel m n).2, rel x y = 1) ↔ GtM rel D n m := by
  have hcn := fun z hz => left_cnt1 h (z := z) hz m n hm hn
  have hcz := fun z hz => left_zero h (z := z) hz m n hm hn
  have hr := fun x hx => hm x ((left_sub (rel := rel) m n).1 x hx)
  have hc := fun x hx => hn x ((left_sub (rel := rel) m n).2 x hx)
  constructor
  · intro ha
    refine ⟨?_, fun y hy hlt => ?_⟩
    · refine Classical.byContradiction fun hno => hne ((left_empty h hm hn).2 fun z hz => Classical.byContradiction fun e => hno ⟨z, hz, fun e2 => e e2.symm⟩)
    · have h1 := hcn y hy
      obtain ⟨y', hy', e⟩ := cnt_pos.1 (show 0 < cntM rel y (leftM rel m n).1 by omega)
      obtain ⟨x, hx, e3⟩ := ha y' hy'
      refine ⟨x, hc x hx, ?_, ?_⟩
      · rw [h.congR hy (hr y' hy') (hc x hx) e]
        exact (h.one (hr y' hy') (hc x hx)).1 e3
      · have h2 := hcn x (hc x hx)
        have h3 := hcz x (hc x hx)
        have h4 : 0 < cntM rel x (leftM rel m n).2 := cnt_pos.2 ⟨x, hx, h.self (hc x hx)⟩
        omega
  · intro ⟨_, hg⟩ y hy
    have hDy := hr y hy
    have h1 := hcn y hDy
    have h2 := hcz y hDy
    have h3 : 0 < cntM rel y (leftM rel m n).1 := cnt_pos.2 ⟨y, hy, h.self hDy⟩
    obtain ⟨x, hx, e, hlt⟩ := hg y hDy (by omega)
    have h4 := hcn x hx
    have h5 := hcz x hx
    obtain ⟨x', hx', e'⟩ := cnt_pos.1 (show 0 < cntM rel x (leftM rel m n).2 by omega)
    refine ⟨x', hx', (h.one hDy (hc x' hx')).2 ?_⟩
    rw [← h.cong hx (hc x' hx') hDy e']; exact e
theorem mul_two : mulR rel m n = 2 ↔ EqM rel D m n := by
  rw [← left_empty h hm hn, ← isE_iff m n]
  unfold mulR relM
  constructor
  · intro e
    split at e
    · assumption
    · split at e
      · cases e
      · split at e <;> cases e
  · intro e; rw [if_pos e]
theorem mul_three : mulR rel m n = 3 ↔ GtM rel D m n := by
  by_cases he : (leftM rel m n).1 = [] ∧ (leftM rel m n).2 = []
  · have e2 := (mul_two h hm hn).2 ((left_empty h hm hn).1 he)
    rw [e2]
    refine ⟨fun e => (by cases e), fun ⟨⟨z, hz, hne⟩, _⟩ => absurd ((left_empty h hm hn).1 he z hz) hne⟩
  · rw [← left_gt h hm hn he]
    unfold mulR relM
    rw [if_neg (fun e => he ((isE_iff m n).1 e))]
    constructor
    · intro e
      split at e
      · rename_i ha
        simpa [List.all_eq_true, List.any_eq_true] using ha
      · split at e <;> cases e
    · intro ha
      rw [if_pos (by simpa [List.all_eq_true, List.any_eq_true] using ha)]
theorem mul_one : mulR rel m n = 1 ↔ GtM rel D n m := by
  by_cases he : (leftM rel m n).1 = [] ∧ (leftM rel m n).2 = []
  · have e2 := (mul_two h hm hn).2 ((left_empty h hm hn).1 he)
    rw [e2]
    refine ⟨fun e => (by cases e), fun ⟨⟨z, hz, hne⟩, _⟩ => absurd ((left_empty h hm hn).1 he z hz).symm hne⟩
  · have h3 := mul_three h hm hn
    have has := fun a b => gt_asym h hm hn a b
    rw [← left_lt h hm hn he]
    constructor
    · intro e
      unfold mulR relM at e
      rw [if_neg (fun e => he ((isE_iff m n).1 e))] at e
      split at e
      · cases e
      · split at e
        · rename_i ha
          simpa [List.all_eq_true, List.any_eq_true] using ha
        · cases e
    · intro ha
      have hno : ¬ mulR rel m n = 3 := fun e => has (h3.1 e) ((left_lt h hm hn he).1 ha)
      unfold mulR relM at hno ⊢
      rw [if_neg (fun e => he ((isE_iff m n).1 e))] at hno ⊢
      split at hno
      · exact absurd rfl hno
      · rename_i h4
        rw [if_neg h4, if_pos (by simpa [List.all_eq_true, List.any_eq_true] using ha)]
end
end
def membs {α : Type} (neg : Bool) (l r : α) : List (List α) := if neg then [[l, r]] else [[l], [r]]
end Go.Proofs.YthgglobfkkcdgaaGreat
namespace Go.Proofs.YthgglobfkkcdgaaGreat
open Go Go.RowKit
variable {F : Fence} {n : Nat} {P : Program} {α : Type}
structure Keeps (S : Nat → Prop) (W W' : World) : Prop where
  os : W'.os = W.os
  tape : W'.tape = W.tape
  output : W'.output = W.output
  size : W.heap.size ≤ W'.heap.size
  block : ∀ g, S g → W'.heap[g]? = W.heap[g]?
theorem Keeps.refl (S : Nat → Prop) (W : World) : Keeps S W W := ⟨rfl, rfl, rfl, Nat.le_refl _, fun _ _ => rfl⟩
theorem Keeps.trans {S : Nat → Prop} {A B C : World} (h : Keeps S A B) (k : Keeps S B C) : Keeps S A C :=
  ⟨k.os.trans h.os, k.tape.trans h.tape, k.output.trans h.output, Nat.le_trans h.size k.size, fun g hg => (k.block g hg).trans (h.block g hg)⟩
theorem Keeps.mono {S T : Nat → Prop} {A B : World} (h : Keeps S A B) (hs : ∀ g, T g → S g) : Keeps T A B := ⟨h.os, h.tape, h.output, h.size, fun g hg => h.block g (hs g hg)⟩
theorem Keeps.below {S : Nat → Prop} {b : Nat} {A B : World} (h : Keeps S A B) (hs : ∀ g, g < b → S g) : Below b A B := ⟨h.os, h.tape, h.output, h.size, fun g hg => h.block g (hs g hg)⟩
theorem Keeps.of_below {b : Nat} {A B : World} (h : Below b A B) : Keeps (· < b) A B := ⟨h.os, h.tape, h.output, h.size, h.block⟩
theorem Keeps.of_grown {A B : World} {row : Option Nat} (h : A.grownBy B row) : Keeps (fun g => g < A.heap.size ∧ some g ≠ row) A B := ⟨h.os, h.tape, h.output, h.size, fun g hg => h.block g hg.1 hg.2⟩
theorem Keeps.alloc (W : World) (o : Obj) : Keeps (· < W.heap.size) W (W.alloc o) := Keeps.of_below ((Below.refl _ _).alloc (Nat.le_refl _) _)
theorem Keeps.set (W : World) (p : Addr) (v : Value) : Keeps (· ≠ p.block) W (W.setCell p v) := ⟨rfl, rfl, rfl, by simp, fun g hg => Below.heap_setCell W p v g hg⟩
theorem Keeps.drewN (S : Nat → Prop) (W : World) (k : Nat) : Keeps S W (W.drewN k) := ⟨rfl, rfl, rfl, Nat.le_refl _, fun _ _ => rfl⟩
end Go.Proofs.YthgglobfkkcdgaaGreat
namespace Go.Proofs.YthgglobfkkcdgaaGreat
open Go.RowKit
section
variable {w w' : World} {base B n : Nat} {v : Value} {l l' : List Sm} {A : Option Addr}
end
end Go.Proofs.YthgglobfkkcdgaaGreat
namespace Go.Proofs.YthgglobfkkcdgaaGreat
open Go.RowKit
def nameC (c : Int) : Bool := decide ((97 ≤ c ∧ c ≤ 122) ∨ (65 ≤ c ∧ c ≤ 90) ∨ (48 ≤ c ∧ c ≤ 57) ∨ c = 95)
def nameAll (l : List UInt8) : Bool := l.all fun c => nameC c.toNat
end Go.Proofs.YthgglobfkkcdgaaGreat
namespace Go.Proofs.YthgglobfkkcdgaaGreat
open Go.RowKit
def namedB (s : ByteArray) : Bool := decide (1 ≤ s.size) && decide (s.size ≤ 40) && nameAll s.data.toList
def oneI (name : ByteArray) (arity : Int) : Int := if namedB name = false then 111 else if arity < 0 ∨ 6 < arity then 112 else 0
end Go.Proofs.YthgglobfkkcdgaaGreat
namespace Go.Proofs.YthgglobfkkcdgaaGreat
open Go.RowKit
def truthS : ByteArray := ⟨#[36, 116, 114, 117, 101]⟩
def truthSm : Sm := ⟨truthS, 0, true⟩
def atI (l : List Sm) (x : Sm) : Int := match l.findIdx? (· == x) with | some i => i | none => -1
end Go.Proofs.YthgglobfkkcdgaaGreat
namespace Go.Proofs.YthgglobfkkcdgaaGreat
open Go.RowKit
theorem cell_on {B : Nat} {W w1 : World} (hb : Below B W w1) {b o : Nat} {v : Value} (hlt : b < B) (h : W.cell? ⟨b, o, none⟩ = some v) : w1.cell? ⟨b, o, none⟩ = some v := (hb.cell (p := ⟨b, o, none⟩) hlt).trans h
theorem frozen_on {B : Nat} {W w1 : World} (hb : Below B W w1) {b o : Nat} {x : Bool} (hlt : b < B) (h : W.frozen? ⟨b, o, none⟩ = x) : w1.frozen? ⟨b, o, none⟩ = x := (hb.frozen (p := ⟨b, o, none⟩) hlt).trans h
end Go.Proofs.YthgglobfkkcdgaaGreat
namespace Go.Proofs.YthgglobfkkcdgaaGreat
open Go.RowKit
set_option maxRecDepth 100000
section
variable {w w' : World} {lo hi lo' hi' : Nat} {A : Option Addr} {xs : List Tm}
end
section
variable {w w' : World} {lo hi : Nat} {xs : List Tm} {b cap k : Nat} {vs : List Value} {A' : Nat → Option Addr} {c' m : Nat → Nat}
end
end Go.Proofs.YthgglobfkkcdgaaGreat
namespace Go.Proofs.YthgglobfkkcdgaaGreat
open Go.RowKit
set_option maxRecDepth 100000
theorem heap3 (w : World) (o1 o2 o3 : Obj) : (((w.alloc o1).alloc o2).alloc o3).heap[w.heap.size]? = some o1 ∧ (((w.alloc o1).alloc o2).alloc o3).heap[w.heap.size + 1]? = some o2 ∧ (((w.alloc o1).alloc o2).alloc o3).heap[w.heap.size + 1 + 1]? = some o3 := by
  have e1 : (w.alloc o1).heap.size = w.heap.size + 1 := by simp
  have e2 : ((w.alloc o1).alloc o2).heap.size = w.heap.size + 1 + 1 := by simp
  refine ⟨?_, ?_, ?_⟩
  · rw [Below.heap_alloc _ _ _ (by omega), Below.heap_alloc _ _ _ (by omega)]
    exact heap_alloc_new w o1
  · rw [Below.heap_alloc _ _ _ (by omega), ← e1]
    exact heap_alloc_new _ o2
  · rw [← e2]
    exact heap_alloc_new _ o3
theorem cells_two {W : World} {b : Nat} {x y : Value} {t : TypeId} (h : W.heap[b]? = some (.cells #[x, y] t)) : W.cell? ⟨b, 0, none⟩ = some x ∧ W.cell? ⟨b, 1, none⟩ = some y ∧ W.frozen? ⟨b, 0, none⟩ = false ∧ W.frozen? ⟨b, 1, none⟩ = false := by
  refine ⟨?_, ?_, ?_, ?_⟩ <;> simp [World.cell?, World.frozen?, h]
end Go.Proofs.YthgglobfkkcdgaaGreat
namespace Go.Proofs.YthgglobfkkcdgaaGreat
open Go.RowKit
set_option maxRecDepth 100000
structure Ints (w : World) (B : Nat) (A : Option Addr) (l : List Int) : Prop where
  len : l.length ≤ 9223372036854775807
  i64 : ∀ x ∈ l, I64 x
  ad : 0 < l.length → ∃ b off, A = some ⟨b, off, none⟩ ∧ b < B ∧ ∀ (i : Nat) (x : Int), l[i]? = some x → w.cell? ⟨b, off + i, none⟩ = some (.int .i64 x)
section
variable {w w' : World} {B B' : Nat} {A : Option Addr} {l : List Int}
theorem Ints.keep (h : Ints w B A l) (hk : ∀ p : Addr, p.block < B → w'.cell? p = w.cell? p) : Ints w' B A l :=
  ⟨h.len, h.i64, fun hn => by
    obtain ⟨b, off, hA, hlt, hc⟩ := h.ad hn
    exact ⟨b, off, hA, hlt, fun i x hi => (hk ⟨b, _, none⟩ hlt).trans (hc i x hi)⟩⟩
theorem Ints.blw (h : Ints w B A l) (hb : Below B w w') : Ints w' B A l := h.keep fun _ hp => hb.cell hp
theorem Ints.more (h : Ints w B A l) (hB : B ≤ B') : Ints w B' A l :=
  ⟨h.len, h.i64, fun hn => by
    obtain ⟨b, off, hA, hlt, hc⟩ := h.ad hn
    exact ⟨b, off, hA, by omega, hc⟩⟩
theorem Ints.on (h : Ints w w.heap.size A l) (hb : Below w.heap.size w w') : Ints w' w'.heap.size A l := (h.blw hb).more hb.size
end
theorem set2_two {W : World} {b : Nat} {x y u v : Value} {t : TypeId} (h : W.heap[b]? = some (.cells #[x, y] t)) : (W.setCell ⟨b, 0, none⟩ u).heap[b]? = some (.cells #[u, y] t) ∧ ((W.setCell ⟨b, 0, none⟩ u).setCell ⟨b, 1, none⟩ v).heap[b]? = some (.cells #[u, v] t) :=
  have h1 : (W.setCell ⟨b, 0, none⟩ u).heap[b]? = some (.cells #[u, y] t) := heap_setCell_same W _ 0 _ _ _ h
  ⟨h1, heap_setCell_same _ _ 1 _ _ _ h1⟩
end Go.Proofs.YthgglobfkkcdgaaGreat
namespace Go.Proofs.YthgglobfkkcdgaaGreat
open Go.RowKit
set_option maxRecDepth 100000
inductive ArgsN (w : World) (N : Nat → Prop) : Option Addr → List Tm → Prop
  | nil (A : Option Addr) : ArgsN w N A []
  | row (b off : Nat) (xs : List Tm) (A' : Nat → Option Addr) (c' : Nat → Nat) (hb : N b) (hlen : xs.length ≤ 9223372036854775807) (hi : ∀ (i : Nat) (t : Tm), xs[i]? = some t → I64 t.fn)
      (h0 : ∀ (i : Nat) (t : Tm), xs[i]? = some t → w.cell? ⟨b, off + i * 2, none⟩ = some (.int .i64 t.fn))
      (h1 : ∀ (i : Nat) (t : Tm), xs[i]? = some t → w.cell? ⟨b, off + i * 2 + 1, none⟩ = some (.slice (A' i) t.args.length (c' i)))
      (hs : ∀ (i : Nat) (t : Tm), xs[i]? = some t → ArgsN w N (A' i) t.args) : ArgsN w N (some ⟨b, off, none⟩) xs
theorem cell_of_heap {w w' : World} {b o : Nat} (h : w'.heap[b]? = w.heap[b]?) : w'.cell? ⟨b, o, none⟩ = w.cell? ⟨b, o, none⟩ := World.cell?_of_block h
section
variable {w w' : World} {N : Nat → Prop} {B : Nat} {A : Option Addr} {xs : List Tm}
theorem Args.toN (h : Args w B A xs) : ArgsN w (· < B) A xs := by
  induction h with
  | nil A => exact .nil A
  | row b off xs A' c' hb hlen hi h0 h1 _ ih => exact .row b off xs A' c' hb hlen hi h0 h1 ih
theorem ArgsN.args (h : ArgsN w N A xs) (hN : ∀ g, N g → g < B) : Args w B A xs := by
  induction h with
  | nil A => exact .nil A
  | row b off xs A' c' hb hlen hi h0 h1 _ ih => exact .row b off xs A' c' (hN b hb) hlen hi h0 h1 ih
theorem ArgsN.keep (h : ArgsN w N A xs) (hk : ∀ g, N g → w'.heap[g]? = w.heap[g]?) : ArgsN w' N A xs := by
  induction h with
  | nil A => exact .nil A
  | row b off xs A' c' hb hlen hi h0 h1 _ ih => exact .row b off xs A' c' hb hlen hi (fun i t e => (cell_of_heap (hk b hb)).trans (h0 i t e)) (fun i t e => (cell_of_heap (hk b hb)).trans (h1 i t e)) ih
theorem ArgsN.len (h : ArgsN w N A xs) : xs.length ≤ 9223372036854775807 := by
  cases h with
  | nil => simp
  | row => assumption
structure ArgAtN (w : World) (N : Nat → Prop) (b off i : Nat) (t : Tm) (A' : Option Addr) (c' : Nat) : Prop where
  hb : N b
  hi : I64 t.fn
  c0 : w.cell? ⟨b, off + i * 2, none⟩ = some (.int .i64 t.fn)
  c1 : w.cell? ⟨b, off + i * 2 + 1, none⟩ = some (.slice A' t.args.length c')
  sub : ArgsN w N A' t.args
theorem ArgsN.get (h : ArgsN w N A xs) {i : Nat} {t : Tm} (hi : xs[i]? = some t) : ∃ b off A' c', A = some ⟨b, off, none⟩ ∧ ArgAtN w N b off i t A' c' := by
  cases h with
  | nil => simp at hi
  | row b off _ A' c' hb hlen hi' h0 h1 hs => exact ⟨b, off, A' i, c' i, rfl, hb, hi' i t hi, h0 i t hi, h1 i t hi, hs i t hi⟩
end
theorem row_lt {W : World} {base n : Nat} {e : TypeId} {size : Nat} {v : Value} {vs : List Value} (h : W.ownsRow base e size v n vs) : ∀ g, v.ownBlock = some g → base ≤ g ∧ g < W.heap.size := by
  intro g hg
  rcases h.2 with ⟨rfl, _⟩ | ⟨g', cap, cur, rfl, hb, hgc, _⟩
  · cases hg
  · simp [Value.ownBlock] at hg
    subst hg
    exact ⟨hb, (Array.getElem?_eq_some_iff.1 hgc).1⟩
theorem row_keep {W W' : World} {base n : Nat} {e : TypeId} {size : Nat} {v : Value} {vs : List Value} (h : W.ownsRow base e size v n vs) (hk : ∀ g, v.ownBlock = some g → W'.heap[g]? = W.heap[g]?) : W'.ownsRow base e size v n vs := by
  refine ⟨h.1, ?_⟩
  rcases h.2 with h0 | ⟨g', cap, cur, rfl, hb, hgc, hrest⟩
  · exact .inl h0
  · exact .inr ⟨g', cap, cur, rfl, hb, (hk g' rfl).trans hgc, hrest⟩
section
variable {W W' : World} {C : World → Nat → Prop} {N : Nat → Prop} {l b : Nat} {pos : List Int}
end
end Go.Proofs.YthgglobfkkcdgaaGreat
namespace Go.Proofs.YthgglobfkkcdgaaGreat
open Go.RowKit
set_option maxRecDepth 100000
section
variable {σ : Type} (nx : σ → Int → σ × Int)
end
def KeepsC (C : Nat → Prop) (w w' : World) : Prop := Keeps (fun g => g < w.heap.size ∧ ¬ C g) w w'
section
variable {C : Nat → Prop} {a b c : World}
theorem KeepsC.k (h : KeepsC C a b) : Keeps (fun g => g < a.heap.size ∧ ¬ C g) a b := h
theorem KeepsC.refl (C : Nat → Prop) (a : World) : KeepsC C a a := Keeps.refl _ _
theorem KeepsC.size (h : KeepsC C a b) : a.heap.size ≤ b.heap.size := Keeps.size h
theorem KeepsC.trans (h : KeepsC C a b) (k : KeepsC C b c) : KeepsC C a c := Keeps.trans h (Keeps.mono k fun _ e => ⟨Nat.lt_of_lt_of_le e.1 h.size, e.2⟩)
theorem KeepsC.of_below (h : Below a.heap.size a b) : KeepsC C a b := (Keeps.of_below h).mono fun _ e => e.1
theorem KeepsC.alloc (h : KeepsC C a b) (o : Obj) : KeepsC C a (b.alloc o) := h.trans (Keeps.alloc b o |>.mono fun _ e => e.1)
theorem KeepsC.set (h : KeepsC C a b) {p : Addr} (hp : a.heap.size ≤ p.block) (v : Value) : KeepsC C a (b.setCell p v) :=
  Keeps.trans h ((Keeps.set b p v).mono fun g e => by show g ≠ p.block; have := e.1; omega)
theorem KeepsC.block (h : KeepsC C a b) {g : Nat} (hg : g < a.heap.size) (hc : ¬ C g) : b.heap[g]? = a.heap[g]? := Keeps.block h g ⟨hg, hc⟩
theorem KeepsC.below (h : KeepsC C a b) {n : Nat} (hn : n ≤ a.heap.size) (hc : ∀ g, g < n → ¬ C g) : Below n a b := Keeps.below h fun g e => ⟨by omega, hc g e⟩
theorem KeepsC.none (h : KeepsC (fun _ => False) a b) : Below a.heap.size a b := h.below (Nat.le_refl _) fun _ _ e => e
theorem KeepsC.mono {D : Nat → Prop} (h : KeepsC C a b) (hd : ∀ g, C g → D g) : KeepsC D a b := Keeps.mono h fun _ e => ⟨e.1, fun k => e.2 (hd _ k)⟩
end
end Go.Proofs.YthgglobfkkcdgaaGreat
namespace Go.Proofs.YthgglobfkkcdgaaGreat
open Go.RowKit
set_option maxRecDepth 100000
end Go.Proofs.YthgglobfkkcdgaaGreat
namespace Go.Proofs.YthgglobfkkcdgaaGreat
open Go.RowKit Go.Shelf
attribute [local go_sem] Oper.semAt_some
set_option maxRecDepth 100000
theorem infoInt : (Tryz.prog.info? 3).map (fun i => (i.zero, i.size, i.bytes)) = some (some (.int .i64 0), 1, 8) := by kernel_rfl
end Go.Proofs.YthgglobfkkcdgaaGreat
namespace Go.Proofs.YthgglobfkkcdgaaGreat
open Go.RowKit
set_option maxRecDepth 100000
theorem numI_lt {a b : Int} (h : a < b) : numI a b = -1 := by simp [numI, h]
theorem numI_gt {a b : Int} (h : b < a) : numI a b = 1 := by simp [numI, h]; omega
theorem numI_eq {a b : Int} (h1 : b ≤ a) (h2 : a ≤ b) : numI a b = 0 := by
  have : a = b := by omega
  subst this
  simp [numI]
end Go.Proofs.YthgglobfkkcdgaaGreat
namespace Go.Proofs.YthgglobfkkcdgaaGreat
open Go.RowKit
set_option maxRecDepth 100000
section
variable {l : List Sm} {f d r : Int} {xs : List Tm} {s : Sm} {t : Tm}
end
theorem heap2 (w : World) (o1 o2 : Obj) : ((w.alloc o1).alloc o2).heap[w.heap.size]? = some o1 ∧ ((w.alloc o1).alloc o2).heap[w.heap.size + 1]? = some o2 := by
  have e1 : (w.alloc o1).heap.size = w.heap.size + 1 := by simp
  refine ⟨?_, ?_⟩
  · rw [Below.heap_alloc _ _ _ (by omega)]
    exact heap_alloc_new w o1
  · rw [← e1]
    exact heap_alloc_new _ o2
theorem cells_one {W : World} {b : Nat} {x : Value} {t : TypeId} (h : W.heap[b]? = some (.cells #[x] t)) : W.cell? ⟨b, 0, none⟩ = some x ∧ W.frozen? ⟨b, 0, none⟩ = false := by
  refine ⟨?_, ?_⟩ <;> simp [World.cell?, World.frozen?, h]
end Go.Proofs.YthgglobfkkcdgaaGreat
namespace Go.Proofs.YthgglobfkkcdgaaGreat
open Go.RowKit Go.Shelf
set_option maxRecDepth 100000
section
variable {σ : Type} {nx : σ → Int → σ × Int} {kn : FuncId} {nc : Array Value} {C D N : Nat → Prop} {I : σ → World → Prop} {B0 : Nat}
end
end Go.Proofs.YthgglobfkkcdgaaGreat
namespace Go.Proofs.YthgglobfkkcdgaaGreat
open Go.RowKit Go.Shelf
set_option maxRecDepth 100000
end Go.Proofs.YthgglobfkkcdgaaGreat
namespace Go.Proofs.YthgglobfkkcdgaaGreat
open Go.RowKit Go.Shelf
set_option maxRecDepth 100000
def IntsV (w : World) (v : Value) (l : List Int) : Prop := ∃ A c, v = .slice A l.length c ∧ Ints w w.heap.size A l
theorem row_ints {w : World} {base : Nat} {v : Value} {l : List Int} (h : w.ownsRow base 3 1 v l.length (l.map (Value.int .i64))) (hl : l.length ≤ 9223372036854775807) (hi : ∀ x ∈ l, I64 x) : IntsV w v l := by
  rcases h.2 with ⟨rfl, h0⟩ | ⟨g, cap, cur, rfl, hb, hg, _⟩
  · exact ⟨none, 0, by rw [h0], hl, hi, fun hn => by omega⟩
  · refine ⟨_, _, rfl, hl, hi, fun hn => ⟨g, 0, rfl, (Array.getElem?_eq_some_iff.1 hg).1, fun i x hx => ?_⟩⟩
    have hlt := (List.getElem?_eq_some_iff.1 hx).1
    rw [Nat.zero_add, h.cellAt i (by simpa using hlt)]
    simp [hx]
end Go.Proofs.YthgglobfkkcdgaaGreat
namespace Go.Proofs.YthgglobfkkcdgaaGreat
open Go.RowKit Go.Shelf
set_option maxRecDepth 100000
structure Ti where
  t : Tm
  A : Option Addr
  c : Nat
section
variable {w w' : World} {base base' : Nat} {v : Value} {l : List Ti} {N M : Nat → Prop}
end
theorem step_append_at {P : Program} {w : World} {ops : Array Oper} {o : Oper} {a : Act} {K : Act → World → Prop} {Q : Exit → Act → World → Prop} {E : Prop}
    (hg : o.guard = none) (s x : Operand) (t : TypeId) (hop : o.op = Op.call { callee := Callee.builtin Builtin.append, args := #[s, x], argTypes := #[t, t] })
    (base : Nat) (e : TypeId) (i : TypeInfo) (z : Value) (size bytes : Nat) (h1 : P.underlying t = some (.slice e)) (h2 : P.info? e = some i) (h3 : i.zero = some z) (h4 : i.size = size) (h5 : i.bytes = bytes) (h6 : z.cells.size = size) (h7 : 0 < size)
    (v : Value) (k : Nat) (xs : List Value) (hs : a.eval s = v) (hown : w.ownsRow base e size v k xs) (ad : Addr) (m c : Nat) (news : List Value) (hx : a.eval x = .slice (some ad) m c) (hn : news.length = m * size)
    (hc : ∀ j u, news[j]? = some u → w.cell? (ad.add j) = some u) (h1c : ∀ u ∈ news, u.oneCell' = true) (b1 : k + m ≤ maxLen) (b2 : (k + m) * bytes ≤ 140737488355328) (b3 : base ≤ w.heap.size)
    (hK : ∀ v' w', w'.ownsRow base e size v' (k + m) (xs ++ news) → w.grownBy w' v.ownBlock → (v'.ownBlock = v.ownBlock ∨ v'.ownBlock = some w.heap.size) → K (a.put o.dst v') w') :
    if Region.wanted o (yielded ops a.tmps) = true then Oper.wp P o a w K Q else E := by
  obtain ⟨v', w', hrun, r1, r2, _, r4⟩ := run_append_own_at (P := P) w base t o.type e i z size bytes h1 h2 h3 h4 h5 h6 h7 v k xs hown ad m c news hn hc h1c b1 b2 b3
  rw [if_pos (by simp [Region.wanted, hg])]
  unfold Oper.wp
  simp [execOp, hop, resolve, invoke, builtin, hs, hx, hrun, Result.andThen]
  exact hK _ _ r1 r2 r4
end Go.Proofs.YthgglobfkkcdgaaGreat
namespace Go.Proofs.YthgglobfkkcdgaaGreat
open Go.RowKit Go.Shelf
set_option maxRecDepth 100000
structure Bd where
  v : Int
  t : Tm
section
variable {w w' : World} {N M : Nat → Prop} {A : Option Addr} {l : List Bd}
end
theorem cells_three {W : World} {b : Nat} {x y z : Value} {t : TypeId} (h : W.heap[b]? = some (.cells #[x, y, z] t)) : W.cell? ⟨b, 0, none⟩ = some x ∧ W.cell? ⟨b, 1, none⟩ = some y ∧ W.cell? ⟨b, 2, none⟩ = some z ∧ W.frozen? ⟨b, 0, none⟩ = false ∧ W.frozen? ⟨b, 1, none⟩ = false ∧ W.frozen? ⟨b, 2, none⟩ = false := by
  refine ⟨?_, ?_, ?_, ?_, ?_, ?_⟩ <;> simp [World.cell?, World.frozen?, h]
def selfB (x : Bd) : Prop := x.t.fn = -1 - x.v ∧ x.t.args.length = 0
instance (x : Bd) : Decidable (selfB x) := inferInstanceAs (Decidable (_ ∧ _))
end Go.Proofs.YthgglobfkkcdgaaGreat
namespace Go.Proofs.YthgglobfkkcdgaaGreat
open Go.RowKit Go.Shelf
set_option maxRecDepth 100000
end Go.Proofs.YthgglobfkkcdgaaGreat
namespace Go.Proofs.YthgglobfkkcdgaaGreat
open Go.RowKit Go.Shelf
set_option maxRecDepth 100000
end Go.Proofs.YthgglobfkkcdgaaGreat
namespace Go.Proofs.YthgglobfkkcdgaaGreat
open Go.RowKit Go.Shelf
set_option maxRecDepth 100000
end Go.Proofs.YthgglobfkkcdgaaGreat
namespace Go.Proofs.YthgglobfkkcdgaaGreat
open Go.RowKit Go.Shelf
set_option maxRecDepth 100000
end Go.Proofs.YthgglobfkkcdgaaGreat
namespace Go.Proofs.YthgglobfkkcdgaaGreat
open Go.RowKit Go.Shelf
set_option maxRecDepth 100000
end Go.Proofs.YthgglobfkkcdgaaGreat
namespace Go.Proofs.YthgglobfkkcdgaaGreat
open Go.RowKit Go.Shelf
set_option maxRecDepth 100000
end Go.Proofs.YthgglobfkkcdgaaGreat
namespace Go.Proofs.YthgglobfkkcdgaaGreat
open Go Go.RowKit
structure Later (n : Nat) (W : World) where
  w : World
  h : Below n W w
instance (n : Nat) (W : World) : Nonempty (Later n W) := ⟨⟨W, Below.refl _ _⟩⟩
def Later.step {n : Nat} {W : World} (x : Later n W) {w' : World} (h : Below x.w.heap.size x.w w') (hn : n ≤ W.heap.size) : Later n W := ⟨w', x.h.trans (h.mono (Nat.le_trans hn x.h.size))⟩
theorem wp_region_later {P : Program} {id : Nat} {Q : Exit → Act → World → Prop} {a : Act} {w : World} {l : List Oper} (n : Nat) (W : World) (hm : P.follows .mixedOrders = true) (hB : Region.lexB .any l.toArray = true) (h0 : Below n W w.drew)
    (h : wpQuiet P l.toArray (fun w' => ∃ x : Later n W, w' = x.w) (fun a' => ∀ w', (∃ x : Later n W, w' = x.w) → Q .normal a' w') l a) : (Code.region id l.toArray true).wp P Q a w :=
  wp_region_quiet (C := fun w' => ∃ x : Later n W, w' = x.w) hm hB ⟨⟨_, h0⟩, rfl⟩ (by simpa using h)
theorem calls_later {P : Program} {f : FuncId} {args : Array Value} {n : Nat} {W : World} {v : Value} (x : Later n W) (hn : n ≤ W.heap.size) (h : Calls P f args x.w fun e w' => e = .returned v ∧ Below x.w.heap.size x.w w') :
    Calls P f args x.w fun e w' => e = .returned v ∧ ∃ y : Later n W, w' = y.w :=
  h.mono fun _ _ ⟨he, hb⟩ => ⟨he, x.step hb hn, rfl⟩
end Go.Proofs.YthgglobfkkcdgaaGreat
namespace Go.Proofs.YthgglobfkkcdgaaGreat
open Go.RowKit Go.Shelf
set_option maxRecDepth 100000
section
variable {l : List Bd} {k : Nat} {lo : Int} {x : Bd}
end
end Go.Proofs.YthgglobfkkcdgaaGreat
namespace Go.Proofs.YthgglobfkkcdgaaGreat
open Go.RowKit Go.Shelf
set_option maxRecDepth 100000
set_option maxRecDepth 100000
structure IntsR (w : World) (base : Nat) (v : Value) (l : List Int) : Prop where
  row : w.ownsRow base 3 1 v l.length (l.map (Value.int .i64))
  i64 : ∀ x ∈ l, I64 x
theorem IntsR.get {w : World} {base : Nat} {v : Value} {l : List Int} (h : IntsR w base v l) {i : Nat} {x : Int} (hx : l[i]? = some x) : ∃ g c, v = .slice (some ⟨g, 0, none⟩) l.length c ∧ g < w.heap.size ∧ w.cell? ⟨g, i, none⟩ = some (.int .i64 x) := by
  have hlt := (List.getElem?_eq_some_iff.1 hx).1
  rcases h.row.2 with ⟨_, h0⟩ | ⟨g, cap, cur, rfl, hb, hg, _⟩
  · omega
  · refine ⟨g, cap, rfl, (Array.getElem?_eq_some_iff.1 hg).1, ?_⟩
    rw [h.row.cellAt i (by simpa using hlt)]
    simp [hx]
theorem IntsR.on {w w' : World} {base : Nat} {v : Value} {l : List Int} (h : IntsR w base v l) (hb : Below w.heap.size w w') : IntsR w' base v l := ⟨row_keep h.row fun g e => hb.block g (row_lt h.row g e).2, h.i64⟩
theorem row_slice {W : World} {base n : Nat} {e : TypeId} {size : Nat} {v : Value} {vs : List Value} (h : W.ownsRow base e size v n vs) : ∃ A c, v = .slice A n c := by
  rcases h.2 with ⟨hv, h0⟩ | ⟨g, cap, cur, hv, _⟩
  · exact ⟨none, 0, by rw [hv, h0]⟩
  · exact ⟨_, cap, hv⟩
theorem frozen_9 {W : World} {b : Nat} {cs : Array Value} {t : TypeId} (h : W.heap[b]? = some (.cells cs t)) (o : Nat) : W.frozen? ⟨b, o, none⟩ = false := by simp [World.frozen?, h]
theorem info_int : (Tryz.prog.info? 3).map (fun i => (i.zero, i.size, i.bytes)) = some (some (.int .i64 0), 1, 8) := by kernel_rfl
end Go.Proofs.YthgglobfkkcdgaaGreat
namespace Go.Proofs.YthgglobfkkcdgaaGreat
open Go.RowKit Go.Shelf
set_option maxRecDepth 100000
section
variable {σ : Type} (vs : σ → Tm → σ × Bool)
mutual
def evT : σ → Tm → σ × Bool
  | s, .node f xs => if (vs s (.node f xs)).2 then evL (vs s (.node f xs)).1 xs else ((vs s (.node f xs)).1, false)
def evL : σ → List Tm → σ × Bool
  | s, [] => (s, true)
  | s, t :: ts => if (evT s t).2 then evL (evT s t).1 ts else ((evT s t).1, false)
end
end
section
variable {σ : Type} (V : σ → Tm → Prop) (vs : σ → Tm → σ × Bool)
mutual
def okT : σ → Tm → Prop
  | s, .node f xs => V s (.node f xs) ∧ ((vs s (.node f xs)).2 = true → okL (vs s (.node f xs)).1 xs)
def okL : σ → List Tm → Prop
  | _, [] => True
  | s, t :: ts => okT s t ∧ ((evT vs s t).2 = true → okL (evT vs s t).1 ts)
end
end
theorem okL_drop {σ : Type} {V : σ → Tm → Prop} {vs : σ → Tm → σ × Bool} {s : σ} {xs : List Tm} {k : Nat} {u : Tm} (h : xs[k]? = some u) (hk : okL V vs s (xs.drop k)) : okT V vs s u ∧ ((evT vs s u).2 = true → okL V vs (evT vs s u).1 (xs.drop (k + 1))) := by
  obtain ⟨h1, h2⟩ := List.getElem?_eq_some_iff.1 h
  rw [List.drop_eq_getElem_cons h1, h2, okL] at hk
  exact hk
theorem evL_drop {σ : Type} {vs : σ → Tm → σ × Bool} {s : σ} {xs : List Tm} {k : Nat} {u : Tm} (h : xs[k]? = some u) : evL vs s (xs.drop k) = if (evT vs s u).2 then evL vs (evT vs s u).1 (xs.drop (k + 1)) else ((evT vs s u).1, false) := by
  obtain ⟨h1, h2⟩ := List.getElem?_eq_some_iff.1 h
  rw [List.drop_eq_getElem_cons h1, h2, evL]
structure VisC {σ : Type} (V : σ → Tm → Prop) (vs : σ → Tm → σ × Bool) (k : FuncId) (cv : Array Value) (C D N : Nat → Prop) (I : σ → World → Prop) (B0 : Nat) : Prop where
  ent : ∀ (args : Array Value) (w : World), (callFunc k args).run Tryz.prog w = .ok (.enter k args) w
  call : ∀ (s : σ) (t : Tm) (A : Option Addr) (c : Nat) (W : World), B0 ≤ W.heap.size → I s W → I64 t.fn → V s t → ArgsN W N A t.args → Calls Tryz.prog k (#[.agg #[.int .i64 t.fn, .slice A t.args.length c]] ++ cv) W fun e W' => e = .returned (.bool (vs s t).2) ∧ I (vs s t).1 W' ∧ KeepsC C W W'
  stay : ∀ s W W', I s W → Keeps D W W' → I s W'
  cb : ∀ g, C g → g < B0
  db : ∀ g, D g → g < B0
  nb : ∀ g, N g → g < B0
  nc : ∀ g, N g → ¬ C g
def VisPost {σ : Type} (C : Nat → Prop) (I : σ → World → Prop) (r : σ × Bool) (w : World) (e : Ending) (w' : World) : Prop := e = .returned (.bool r.2) ∧ I r.1 w' ∧ KeepsC C w w'
section
variable {σ : Type} {V : σ → Tm → Prop} {vs : σ → Tm → σ × Bool} {k : FuncId} {cv : Array Value} {C D N : Nat → Prop} {I : σ → World → Prop} {B0 : Nat}
def EachAt (V : σ → Tm → Prop) (vs : σ → Tm → σ × Bool) (k : FuncId) (cv : Array Value) (C N : Nat → Prop) (I : σ → World → Prop) (B0 vb wb : Nat) (t : Tm) : Prop :=
  ∀ (s : σ) (A : Option Addr) (c : Nat) (w : World), B0 ≤ w.heap.size → Boxed w vb 95 (.func (.func k) #[] cv) → Boxed w wb 95 (.func (.func 86) #[] #[.pointer (some ⟨vb, 0, none⟩), .pointer (some ⟨wb, 0, none⟩)]) →
    I s w → I64 t.fn → okT V vs s t → ArgsN w N A t.args →
    Calls Tryz.prog 86 #[.agg #[.int .i64 t.fn, .slice A t.args.length c], .pointer (some ⟨vb, 0, none⟩), .pointer (some ⟨wb, 0, none⟩)] w (VisPost C I (evT vs s t) w)
set_option maxHeartbeats 2000000 in
theorem each1_any (hN : VisC V vs k cv C D N I B0) (vb wb : Nat) (hvC : ¬ C vb) (hwC : ¬ C wb) (t : Tm) : EachAt V vs k cv C N I B0 vb wb t := by
  refine Tm.ind (P := EachAt V vs k cv C N I B0 vb wb) (fun f xs ih => ?_) t
  intro s A c w hB0 hvb hwb hs hf hV hA
  rw [okT] at hV
  obtain ⟨hV0, hVx⟩ := hV
  simp only [Tm.fn, Tm.args] at hf hA ⊢
  have hlen := hA.len
  have q0 := heap_alloc_new w (.cells #[.int .i64 f, .slice A xs.length c] 36)
  obtain ⟨W, hW⟩ : ∃ W, w.alloc (.cells #[.int .i64 f, .slice A xs.length c] 36) = W := ⟨_, rfl⟩
  have hB : Below w.heap.size w W := by rw [← hW]; exact (Below.refl _ _).alloc (Nat.le_refl _) _
  rw [hW] at q0
  have hWs : w.heap.size < W.heap.size := (Array.getElem?_eq_some_iff.1 q0).1
  have hnC : ∀ g, w.heap.size ≤ g → ¬ C g := fun g h e => by have := hN.cb _ e; omega
  have hnD : ∀ g, D g → g < w.heap.size := fun g e => by have := hN.db _ e; omega
  have hkW : KeepsC C w W := KeepsC.of_below hB
  obtain ⟨x0, x1, _, _⟩ := cells_two q0
  have hcv := Boxed.cell (show Boxed W vb _ _ from (hB.block _ hvb.lt).trans hvb)
  have H1 := Lib.hid (hN.call s (.node f xs) A c W (by omega) (hN.stay s w W hs ((Keeps.of_below hB).mono fun g e => hnD g e)) hf hV0 (hA.keep fun g e => hB.block g (by have := hN.nb g e; omega)))
  have hent := hN.ent
  have HW := Lib.hid hW
  have HN := Lib.hid hN
  have HA := Lib.hid hA
  have hev : evT vs s (.node f xs) = if (vs s (.node f xs)).2 then evL vs (vs s (.node f xs)).1 xs else ((vs s (.node f xs)).1, false) := by rw [evT]
  have Hev := Lib.hid hev
  obtain ⟨r0, hr0⟩ : ∃ r0, vs s (.node f xs) = r0 := ⟨_, rfl⟩
  have H1 : Hid (Calls Tryz.prog k (#[.agg #[.int .i64 f, .slice A xs.length c]] ++ cv) W fun e W' => e = .returned (.bool r0.2) ∧ I r0.1 W' ∧ KeepsC C W W') := by rw [← hr0]; exact H1
  rw [hr0] at Hev hVx
  clear hW hA hs hN hev hr0
  rcases hr : r0.2 with _ | _
  · have Hr := Lib.hid hr
    clear hr hVx
    go_enter Tryz.func86, Tryz.ntmps86
    go_upto_region 1 with fail
    rw [HW.out]
    go_wp2_with (first
      | ((with_reducible refine H1.out.mono ?_); go_must (rintro e w1 ⟨rfl, hI1, hk1⟩; rw [Hr.out]; have hI1 := Lib.hid hI1))
      | fail)
    go_ret
    exact ⟨by rw [Hev.out, Hr.out]; rfl, by rw [Hev.out, Hr.out]; exact hI1.out, hkW.trans hk1⟩
  · have Hr := Lib.hid hr
    have HV0 : Hid (okL V vs r0.1 (xs.drop 0)) := Lib.hid (hVx hr)
    clear hr hVx
    have Hev : Hid (evT vs s (.node f xs) = evL vs r0.1 xs) := Lib.hid (by rw [Hev.out, Hr.out]; rfl)
    have Hvb := Lib.hid hvb
    have Hwb := Lib.hid hwb
    clear hvb hwb
    go_enter Tryz.func86, Tryz.ntmps86
    go_upto_region 1 with fail
    rw [HW.out]
    go_wp2_with (first
      | ((with_reducible refine H1.out.mono ?_); go_must (rintro e w1 ⟨rfl, hI1, hk1⟩; rw [Hr.out]; have hI1 := Lib.hid hI1; obtain ⟨y0, y1, _, _⟩ := cells_two ((hk1.block hWs (hnC _ (Nat.le_refl _))).trans q0)))
      | fail)
    have hK1 := hkW.trans hk1
    have HE0 : Hid (evL vs r0.1 xs = evL vs r0.1 (xs.drop 0)) := Lib.hid rfl
    clear x0 x1 hcv
    go_loopw [14] (fun i wr => ∃ (j : Nat) (s' : σ), j ≤ xs.length ∧ i = .int .i64 (j : Int) ∧ KeepsC C w wr ∧ Hid (I s' wr) ∧ Hid (evL vs r0.1 xs = evL vs s' (xs.drop j)) ∧ Hid (okL V vs s' (xs.drop j))) (fun i _ => xs.length - (intOf i).toNat)
    case atStart => exact ⟨0, r0.1, Nat.zero_le _, rfl, hK1, hI1, HE0, HV0⟩
    case round =>
      obtain ⟨j, s', hj, rfl, hKr, HI, HE, HV⟩ := hrel
      by_cases hlt : j < xs.length
      · obtain ⟨u, hu⟩ : ∃ u, xs[j]? = some u := ⟨_, List.getElem?_eq_getElem hlt⟩
        obtain ⟨bb, off, A1, c1, rfl, ha⟩ := (HA.out.keep fun g e => hKr.block (by have := HN.out.nb g e; omega) (HN.out.nc g e)).get hu
        have e0 := ha.c0
        have e1 := ha.c1
        have hzr := hKr.size
        have r0' := heap_alloc_new wr (.cells #[.int .i64 u.fn, .slice A1 u.args.length c1] 36)
        obtain ⟨W1, hW1⟩ : ∃ W1, wr.alloc (.cells #[.int .i64 u.fn, .slice A1 u.args.length c1] 36) = W1 := ⟨_, rfl⟩
        have hB1 : Below wr.heap.size wr W1 := by rw [← hW1]; exact (Below.refl _ _).alloc (Nat.le_refl _) _
        rw [hW1] at r0'
        have hW1s : wr.heap.size < W1.heap.size := (Array.getElem?_eq_some_iff.1 r0').1
        obtain ⟨z0, z1, _, _⟩ := cells_two r0'
        have hKW1 : KeepsC C w W1 := hKr.trans (KeepsC.of_below hB1)
        have hvb1 : Boxed W1 vb 95 (.func (.func k) #[] cv) := (hKW1.block Hvb.out.lt hvC).trans Hvb.out
        have hwb1 : Boxed W1 wb 95 (.func (.func 86) #[] #[.pointer (some ⟨vb, 0, none⟩), .pointer (some ⟨wb, 0, none⟩)]) := (hKW1.block Hwb.out.lt hwC).trans Hwb.out
        have hcw := hwb1.cell
        have hmem := List.mem_of_getElem? hu
        obtain ⟨hVu, hVn⟩ := okL_drop hu HV.out
        have hcall := Lib.hid (ih u hmem s' A1 c1 W1 (by omega) hvb1 hwb1 (HN.out.stay s' wr W1 HI.out ((Keeps.of_below hB1).mono fun g e => by have := hnD g e; show g < wr.heap.size; omega)) ha.hi hVu (ha.sub.keep fun g e => hB1.block g (by have := HN.out.nb g e; omega)))
        have hd := evL_drop (vs := vs) (s := s') hu
        have HW1 := Lib.hid hW1
        obtain ⟨r1, hr1⟩ : ∃ r1, evT vs s' u = r1 := ⟨_, rfl⟩
        rw [hr1] at hcall hd hVn
        have HVn := Lib.hid hVn
        have Hd := Lib.hid hd
        clear hW1 ha hu hd hr1 hvb1 hwb1 hVu hVn
        rcases hr : r1.2 with _ | _
        · have Hr1 := Lib.hid hr
          clear hr
          go_upto_region 6 with fail
          rw [HW1.out]
          go_wp2_with (first
            | (go_at_call 86; (with_reducible refine hcall.out.mono ?_); go_must (rintro e w2 ⟨rfl, hI2, hk2⟩; rw [Hr1.out]; have hI2 := Lib.hid hI2))
            | fail)
          go_ret
          have hfin : evT vs s (.node f xs) = (r1.1, false) := by rw [Hev.out, HE.out, Hd.out, Hr1.out]; rfl
          exact ⟨ret_bool (by rw [hfin]), by rw [hfin]; exact hI2.out, hKW1.trans hk2⟩
        · have Hr1 := Lib.hid hr
          have HE2 : Hid (evL vs r0.1 xs = evL vs r1.1 (xs.drop (j + 1))) := Lib.hid (by rw [HE.out, Hd.out, hr]; rfl)
          have HV2 : Hid (okL V vs r1.1 (xs.drop (j + 1))) := Lib.hid (HVn.out hr)
          clear hr
          go_upto_region 6 with fail
          rw [HW1.out]
          go_wp2_with (first
            | (go_at_call 86; (with_reducible refine hcall.out.mono ?_); go_must (rintro e w2 ⟨rfl, hI2, hk2⟩; rw [Hr1.out]; have hI2 := Lib.hid hI2; have hK2 := hKW1.trans hk2))
            | fail)
          go_roundw
          case rel => exact ⟨j + 1, r1.1, by omega, by go_num, hK2, hI2, HE2, HV2⟩
          case measure => simp [intOf]; omega
      · obtain rfl : j = xs.length := by omega
        have hfin : Hid (evT vs s (.node f xs) = (s', true)) := Lib.hid (by rw [Hev.out, HE.out, List.drop_length, evL])
        go_wp2
        go_ret
        exact ⟨ret_bool (by rw [hfin.out]), by rw [hfin.out]; exact HI.out, hKr⟩
@[local go_sem] theorem run_store_visit {P : Program} {w : World} {a : Addr} {m : Mode} (f : Fn) (ts cs : Array Value) : (store a (.func f ts cs) m).run P w = stored P w a (.func f ts cs) m := run_store P w a _ m rfl
set_option maxHeartbeats 1000000 in
theorem each_any (hN : VisC V vs k cv C D N I B0) (t : Tm) (s : σ) (A : Option Addr) (c : Nat) (w : World) (hB0 : B0 ≤ w.heap.size) (hs : I s w) (hf : I64 t.fn) (hV : okT V vs s t) (hA : ArgsN w N A t.args) :
    Calls Tryz.prog 67 #[.agg #[.int .i64 t.fn, .slice A t.args.length c], .func (.func k) #[] cv] w (VisPost C I (evT vs s t) w) := by
  obtain ⟨q0, q1, q2⟩ := heap3 w (.cells #[.int .i64 t.fn, .slice A t.args.length c] 36) (.cells #[.func (.func k) #[] cv] 95) (.cells #[.func (.func 86) #[] #[.pointer (some ⟨w.heap.size + 1, 0, none⟩), .pointer (some ⟨w.heap.size + 1 + 1, 0, none⟩)]] 95)
  obtain ⟨W, hW⟩ : ∃ W, (((w.alloc (.cells #[.int .i64 t.fn, .slice A t.args.length c] 36)).alloc (.cells #[.func (.func k) #[] cv] 95)).alloc (.cells #[.func (.func 86) #[] #[.pointer (some ⟨w.heap.size + 1, 0, none⟩), .pointer (some ⟨w.heap.size + 1 + 1, 0, none⟩)]] 95)) = W := ⟨_, rfl⟩
  have hB : Below w.heap.size w W := by rw [← hW]; exact (((Below.refl _ _).alloc (Nat.le_refl _) _).alloc (by simp) _).alloc (by simp; omega) _
  rw [hW] at q0 q1 q2
  have hWs : w.heap.size + 1 + 1 < W.heap.size := (Array.getElem?_eq_some_iff.1 q2).1
  have hnC : ∀ g, w.heap.size ≤ g → ¬ C g := fun g h e => by have := hN.cb _ e; omega
  obtain ⟨x0, x1, _, _⟩ := cells_two q0
  have y0 := Boxed.cell (show Boxed W (w.heap.size + 1 + 1) _ _ from q2)
  have H1 := Lib.hid (each1_any hN (w.heap.size + 1) (w.heap.size + 1 + 1) (hnC _ (by omega)) (hnC _ (by omega)) t s A c W (by omega) q1 q2 (hN.stay s w W hs ((Keeps.of_below hB).mono fun g e => by have := hN.db _ e; show g < w.heap.size; omega)) hf hV (hA.keep fun g e => hB.block g (by have := hN.nb g e; omega)))
  have HW := Lib.hid hW
  clear hW hA hs hN
  go_enter Tryz.func67, Tryz.ntmps67
  go_upto_region 3 with fail
  rw [HW.out]
  go_wp2_with (first
    | (go_at_call 86; (with_reducible refine H1.out.mono ?_); go_must (rintro e w2 ⟨rfl, hI2, hk2⟩; have hI2 := Lib.hid hI2))
    | fail)
  go_ret
  exact ⟨rfl, hI2.out, (KeepsC.of_below hB).trans hk2⟩
end
end Go.Proofs.YthgglobfkkcdgaaGreat
namespace Go.Proofs.YthgglobfkkcdgaaGreat
open Go.RowKit Go.Shelf
set_option maxRecDepth 100000
theorem info_rel : (Tryz.prog.info? 30).map (fun i => (i.zero, i.size, i.bytes)) = some (some (.int .i64 0), 1, 8) := by kernel_rfl
theorem row_set1 {w : World} {base n : Nat} {e : TypeId} {v : Value} {vs : List Value} {g c : Nat} (h : w.ownsRow base e 1 v n vs) (hv : v = .slice (some ⟨g, 0, none⟩) n c) {i : Nat} (_hi : i < n) (u : Value) :
    (w.setCell ⟨g, i, none⟩ u).ownsRow base e 1 v n (vs.set i u) := by
  obtain ⟨h1, h2⟩ := h
  rcases h2 with ⟨rfl, h0⟩ | ⟨g', cap, cur, rfl, hb, hg, hn, hm, hs, ht⟩
  · cases hv
  · cases hv
    refine ⟨by rw [List.length_set]; exact h1, .inr ⟨g, c, cur.set! i u, rfl, hb, heap_setCell_same w g i cur e u hg, hn, hm, by simpa using hs, ?_⟩⟩
    rw [← ht]
    simp [List.take_set]
theorem row_cut1 {w : World} {base n : Nat} {e : TypeId} {A : Option Addr} {c k : Nat} {vs : List Value} (h : w.ownsRow base e 1 (.slice A n c) n vs) (hk : k ≤ n) : w.ownsRow base e 1 (.slice A k c) k (vs.take k) := by
  obtain ⟨h1, h2⟩ := h
  rcases h2 with ⟨hv, h0⟩ | ⟨g', cap, cur, hv, hb, hg, hn, hm, hs, ht⟩
  · injection hv with e1 e2 e3
    subst e1; subst e3; subst h0
    obtain rfl : k = 0 := by omega
    exact ⟨by simp, .inl ⟨rfl, rfl⟩⟩
  · injection hv with e1 e2 e3
    subst e1; subst e3
    refine ⟨by rw [List.length_take, h1]; omega, .inr ⟨g', c, cur, rfl, hb, hg, by omega, hm, hs, ?_⟩⟩
    rw [← ht, List.take_take]
    congr 1; omega
def OwnG (bg : Nat) (v1 v2 v3 : Value) (g : Nat) : Prop := g = bg ∨ v1.ownBlock = some g ∨ v2.ownBlock = some g ∨ v3.ownBlock = some g
structure GrdW (w : World) (S : Nat → Prop) (bg : Nat) (v1 v2 v3 : Value) (rels rows : List Int) (gone : List Bool) : Prop where
  box : w.heap[bg]? = some (.cells #[v1, v2, v3] 63)
  r1 : w.ownsRow 0 30 1 v1 rels.length (rels.map (Value.int .i64))
  r2 : w.ownsRow 0 3 1 v2 rows.length (rows.map (Value.int .i64))
  r3 : w.ownsRow 0 4 1 v3 gone.length (gone.map Value.bool)
  s : ∀ g, OwnG bg v1 v2 v3 g → S g
theorem row_ty {w : World} {base n size : Nat} {e e' : TypeId} {v : Value} {vs : List Value} {g : Nat} {cs : Array Value} (h : w.ownsRow base e size v n vs) (hg : w.heap[g]? = some (.cells cs e')) (hne : e ≠ e') : v.ownBlock ≠ some g := by
  intro hv
  rcases h.2 with ⟨rfl, _⟩ | ⟨g', cap, cur, rfl, hb, hg', _⟩
  · cases hv
  · simp [Value.ownBlock] at hv
    subst hv
    rw [hg] at hg'
    injection hg' with hg'
    injection hg' with _ e1
    exact hne e1.symm
theorem row_ty2 {w : World} {base base' n n' size size' : Nat} {e e' : TypeId} {v v' : Value} {vs vs' : List Value} (h : w.ownsRow base e size v n vs) (h' : w.ownsRow base' e' size' v' n' vs') (hne : e ≠ e') : ∀ g, v.ownBlock = some g → v'.ownBlock ≠ some g := by
  intro g hv
  rcases h.2 with ⟨rfl, _⟩ | ⟨g', cap, cur, rfl, hb, hg', _⟩
  · cases hv
  · simp [Value.ownBlock] at hv
    subst hv
    exact row_ty h' hg' (Ne.symm hne)
section
variable {w w' : World} {S T : Nat → Prop} {bg : Nat} {v1 v2 v3 : Value} {rels rows : List Int} {gone : List Bool}
theorem GrdW.lt (h : GrdW w S bg v1 v2 v3 rels rows gone) : ∀ g, OwnG bg v1 v2 v3 g → g < w.heap.size := by
  intro g hg
  rcases hg with rfl | e | e | e
  · exact (Array.getElem?_eq_some_iff.1 h.box).1
  · exact (row_lt h.r1 g e).2
  · exact (row_lt h.r2 g e).2
  · exact (row_lt h.r3 g e).2
theorem GrdW.keep (h : GrdW w S bg v1 v2 v3 rels rows gone) (hk : ∀ g, OwnG bg v1 v2 v3 g → w'.heap[g]? = w.heap[g]?) : GrdW w' S bg v1 v2 v3 rels rows gone :=
  ⟨(hk bg (.inl rfl)).trans h.box, row_keep h.r1 fun g e => hk g (.inr (.inl e)), row_keep h.r2 fun g e => hk g (.inr (.inr (.inl e))), row_keep h.r3 fun g e => hk g (.inr (.inr (.inr e))), h.s⟩
theorem GrdW.on (h : GrdW w S bg v1 v2 v3 rels rows gone) (hb : Below w.heap.size w w') : GrdW w' S bg v1 v2 v3 rels rows gone := h.keep fun g hg => hb.block g (h.lt g hg)
theorem GrdW.wide (h : GrdW w S bg v1 v2 v3 rels rows gone) (hs : ∀ g, OwnG bg v1 v2 v3 g → T g) : GrdW w T bg v1 v2 v3 rels rows gone := ⟨h.box, h.r1, h.r2, h.r3, hs⟩
theorem GrdW.gone_at (h : GrdW w S bg v1 v2 v3 rels rows gone) {i : Nat} {x : Bool} (hx : gone[i]? = some x) : ∃ g c, v3 = .slice (some ⟨g, 0, none⟩) gone.length c ∧ g < w.heap.size ∧ w.cell? ⟨g, i, none⟩ = some (.bool x) ∧ w.frozen? ⟨g, i, none⟩ = false := by
  have hlt := (List.getElem?_eq_some_iff.1 hx).1
  have hr := h.r3
  rcases hr.2 with ⟨_, h0⟩ | ⟨g, cap, cur, rfl, hb, hg, _⟩
  · omega
  · refine ⟨g, cap, rfl, (Array.getElem?_eq_some_iff.1 hg).1, ?_, frozen_9 hg i⟩
    rw [hr.cellAt i (by simpa using hlt)]
    simp [hx]
end
structure ColC (k : FuncId) (fs cv : Array Value) (N : Nat → Prop) (W : World) (q : Nat → Int) (n : Nat) : Prop where
  ent : ∀ (args : Array Value) (w : World), (callFunc k args).run Tryz.prog w = .ok (.enter k args) w
  call : ∀ (j : Nat) (w : World), j < n → Keeps N W w → Calls Tryz.prog k (fs.push (.int .i64 (j : Int)) ++ cv) w fun e w' => e = .returned (.int .i64 (q j)) ∧ Below w.heap.size w w'
def colR (q : Nat → Int) (gone : List Bool) : List Int := (List.range gone.length).map fun j => if gone.getD j false = true then 0 else q j
theorem colR_len (q : Nat → Int) (gone : List Bool) : (colR q gone).length = gone.length := by unfold colR; simp
theorem colR_take {q : Nat → Int} {gone : List Bool} {i : Nat} (hi : i < gone.length) : (colR q gone).take (i + 1) = (colR q gone).take i ++ [if gone.getD i false = true then 0 else q i] := by
  have hl : i < (colR q gone).length := by rw [colR_len]; exact hi
  rw [List.take_add_one, List.getElem?_eq_getElem hl]
  simp [colR]
def AddP (q : Nat → Int) (rels rows : List Int) (gone : List Bool) (rels' rows' : List Int) (gone' : List Bool) : Prop :=
  (∃ j, gone[j]? = some false ∧ q j = 2 ∧ (∀ i, i < j → gone[i]? = some false → q i ≠ 2) ∧ rels' = rels ∧ rows' = rows ∧ gone' = gone.set j true) ∨
  ((∀ i, gone[i]? = some false → q i ≠ 2) ∧ gone' = gone ∧ rels' = rels ++ colR q gone ∧ rows' = rows ++ [(rels.length : Int)])
def AddPost (q : Nat → Int) (S : Nat → Prop) (bg : Nat) (v1 v2 v3 : Value) (rels rows : List Int) (gone : List Bool) (w : World) (e : Ending) (w' : World) : Prop :=
  e = .returned (.tuple #[]) ∧ ∃ v1' v2' rels' rows' gone', GrdW w' S bg v1' v2' v3 rels' rows' gone' ∧ AddP q rels rows gone rels' rows' gone' ∧ KeepsC (OwnG bg v1 v2 v3) w w'
theorem keepsC_setC {C : Nat → Prop} {w w1 : World} (h : KeepsC C w w1) {p : Addr} (hp : C p.block) (v : Value) : KeepsC C w (w1.setCell p v) :=
  Keeps.trans h ((Keeps.set w1 p v).mono fun _ hg e => hg.2 (e ▸ hp))
theorem keepsC_thru {C D : Nat → Prop} {w w1 w2 : World} (h : KeepsC C w w1) (k : KeepsC D w1 w2) (hd : ∀ g, g < w.heap.size → D g → C g) : KeepsC C w w2 :=
  Keeps.trans h (Keeps.mono k fun g e => ⟨Nat.lt_of_lt_of_le e.1 h.size, fun hg => e.2 (hd g e.1 hg)⟩)
theorem keepsC_grown {w w1 w5 : World} {o : Obj} {C : Nat → Prop} {row : Option Nat} (hgr : (w1.alloc o).grownBy w5 row) (hC : ∀ g, row = some g → C g) (h : KeepsC C w w1) : KeepsC C w w5 :=
  keepsC_thru (h.alloc o) (D := C) ⟨hgr.os, hgr.tape, hgr.output, hgr.size, fun g hg => hgr.block g hg.1 fun e => hg.2 (hC g e.symm)⟩ fun _ _ hg => hg
section
variable {w1 w5 : World} {S : Nat → Prop} {bg : Nat} {vr v2 v3 v5 : Value} {R rows : List Int} {gone : List Bool} {o : Obj} {x : Int}
theorem grd_app1 (h : GrdW w1 S bg vr v2 v3 R rows gone) (hS : ∀ g, w1.heap.size ≤ g → S g) (hown : w5.ownsRow 0 30 1 v5 (R.length + 1) (R.map (Value.int .i64) ++ [.int .i64 x])) (hgr : (w1.alloc o).grownBy w5 vr.ownBlock) (hat : v5.ownBlock = vr.ownBlock ∨ v5.ownBlock = some (w1.alloc o).heap.size) :
    w5.heap[bg]? = some (.cells #[vr, v2, v3] 63) ∧ GrdW (w5.setCell ⟨bg, 0, none⟩ v5) S bg v5 v2 v3 (R ++ [x]) rows gone ∧ KeepsC (OwnG bg vr v2 v3) w1 (w5.setCell ⟨bg, 0, none⟩ v5) ∧ (∀ g, v5.ownBlock = some g → vr.ownBlock = some g ∨ w1.heap.size ≤ g) := by
  have hne := row_ty h.r1 h.box (by decide)
  have hltb : bg < w1.heap.size := h.lt bg (.inl rfl)
  have hkeep : ∀ g, g < w1.heap.size → vr.ownBlock ≠ some g → w5.heap[g]? = w1.heap[g]? := fun g hg hn => (hgr.block g (by simp; omega) (fun e => hn e.symm)).trans (Below.heap_alloc w1 o g hg)
  have hat2 : ∀ g, v5.ownBlock = some g → vr.ownBlock = some g ∨ w1.heap.size ≤ g := fun g e => by
    rcases hat with h' | h'
    · rw [h'] at e; exact .inl e
    · rw [h'] at e; injection e with e; simp at e; exact .inr (by omega)
  have hb5 := (hkeep bg hltb hne).trans h.box
  have hset : ∀ g, g ≠ bg → (w5.setCell ⟨bg, 0, none⟩ v5).heap[g]? = w5.heap[g]? := fun g hg => heap_setCell_other _ _ _ _ hg
  have hn5 : v5.ownBlock ≠ some bg := fun e => (hat2 bg e).elim hne (fun h => by omega)
  refine ⟨hb5, ⟨heap_setCell_same w5 bg 0 _ _ v5 hb5, ?_, ?_, ?_, ?_⟩, keepsC_setC (keepsC_grown hgr (fun g e => .inr (.inl e)) (KeepsC.refl _ _)) (.inl rfl) v5, hat2⟩
  · rw [List.length_append, List.map_append]
    exact row_keep hown fun g e => hset g fun e' => hn5 (e' ▸ e)
  · exact row_keep h.r2 fun g e => (hset g fun e' => row_ty h.r2 h.box (by decide) (e' ▸ e)).trans (hkeep g (h.lt g (.inr (.inr (.inl e)))) (row_ty2 h.r2 h.r1 (by decide) g e))
  · exact row_keep h.r3 fun g e => (hset g fun e' => row_ty h.r3 h.box (by decide) (e' ▸ e)).trans (hkeep g (h.lt g (.inr (.inr (.inr e)))) (row_ty2 h.r3 h.r1 (by decide) g e))
  · intro g hg
    rcases hg with rfl | e | e | e
    · exact h.s g (.inl rfl)
    · rcases hat2 g e with e | e
      · exact h.s g (.inr (.inl e))
      · exact hS g e
    · exact h.s g (.inr (.inr (.inl e)))
    · exact h.s g (.inr (.inr (.inr e)))
theorem grd_app2 (h : GrdW w1 S bg vr v2 v3 R rows gone) (hS : ∀ g, w1.heap.size ≤ g → S g) (hown : w5.ownsRow 0 3 1 v5 (rows.length + 1) (rows.map (Value.int .i64) ++ [.int .i64 x])) (hgr : (w1.alloc o).grownBy w5 v2.ownBlock) (hat : v5.ownBlock = v2.ownBlock ∨ v5.ownBlock = some (w1.alloc o).heap.size) :
    w5.heap[bg]? = some (.cells #[vr, v2, v3] 63) ∧ GrdW (w5.setCell ⟨bg, 1, none⟩ v5) S bg vr v5 v3 R (rows ++ [x]) gone ∧ KeepsC (OwnG bg vr v2 v3) w1 (w5.setCell ⟨bg, 1, none⟩ v5) := by
  have hne := row_ty h.r2 h.box (by decide)
  have hltb : bg < w1.heap.size := h.lt bg (.inl rfl)
  have hkeep : ∀ g, g < w1.heap.size → v2.ownBlock ≠ some g → w5.heap[g]? = w1.heap[g]? := fun g hg hn => (hgr.block g (by simp; omega) (fun e => hn e.symm)).trans (Below.heap_alloc w1 o g hg)
  have hat2 : ∀ g, v5.ownBlock = some g → v2.ownBlock = some g ∨ w1.heap.size ≤ g := fun g e => by
    rcases hat with h' | h'
    · rw [h'] at e; exact .inl e
    · rw [h'] at e; injection e with e; simp at e; exact .inr (by omega)
  have hb5 := (hkeep bg hltb hne).trans h.box
  have hset : ∀ g, g ≠ bg → (w5.setCell ⟨bg, 1, none⟩ v5).heap[g]? = w5.heap[g]? := fun g hg => heap_setCell_other _ _ _ _ hg
  have hn5 : v5.ownBlock ≠ some bg := fun e => (hat2 bg e).elim hne (fun h => by omega)
  refine ⟨hb5, ⟨heap_setCell_same w5 bg 1 _ _ v5 hb5, ?_, ?_, ?_, ?_⟩, keepsC_setC (keepsC_grown hgr (fun g e => .inr (.inr (.inl e))) (KeepsC.refl _ _)) (.inl rfl) v5⟩
  · exact row_keep h.r1 fun g e => (hset g fun e' => row_ty h.r1 h.box (by decide) (e' ▸ e)).trans (hkeep g (h.lt g (.inr (.inl e))) (row_ty2 h.r1 h.r2 (by decide) g e))
  · rw [List.length_append, List.map_append]
    exact row_keep hown fun g e => hset g fun e' => hn5 (e' ▸ e)
  · exact row_keep h.r3 fun g e => (hset g fun e' => row_ty h.r3 h.box (by decide) (e' ▸ e)).trans (hkeep g (h.lt g (.inr (.inr (.inr e)))) (row_ty2 h.r3 h.r2 (by decide) g e))
  · intro g hg
    rcases hg with rfl | e | e | e
    · exact h.s g (.inl rfl)
    · exact h.s g (.inr (.inl e))
    · rcases hat2 g e with e | e
      · exact h.s g (.inr (.inr (.inl e)))
      · exact hS g e
    · exact h.s g (.inr (.inr (.inr e)))
theorem grd_hit {A : Option Addr} {c n n0 c3 g3 j : Nat} (h : GrdW w1 S bg (.slice A n0 c) v2 v3 R rows gone) (hR : R.length = n0) (hv : v3 = .slice (some ⟨g3, 0, none⟩) gone.length c3) (hj : j < gone.length) (hn : n ≤ n0) :
    (w1.setCell ⟨g3, j, none⟩ (.bool true)).heap[bg]? = some (.cells #[.slice A n0 c, v2, v3] 63) ∧ GrdW ((w1.setCell ⟨g3, j, none⟩ (.bool true)).setCell ⟨bg, 0, none⟩ (.slice A n c)) S bg (.slice A n c) v2 v3 (R.take n) rows (gone.set j true) ∧
    KeepsC (OwnG bg (.slice A n0 c) v2 v3) w1 ((w1.setCell ⟨g3, j, none⟩ (.bool true)).setCell ⟨bg, 0, none⟩ (.slice A n c)) := by
  subst hR
  have h3 : v3.ownBlock = some g3 := by rw [hv]; rfl
  have hne3 : g3 ≠ bg := fun e => row_ty h.r3 h.box (by decide) (e ▸ h3)
  have hs1 : ∀ g, g ≠ g3 → (w1.setCell ⟨g3, j, none⟩ (.bool true)).heap[g]? = w1.heap[g]? := fun g hg => heap_setCell_other _ _ _ _ hg
  have hb := (hs1 bg (Ne.symm hne3)).trans h.box
  have hs2 : ∀ g, g ≠ bg → ((w1.setCell ⟨g3, j, none⟩ (.bool true)).setCell ⟨bg, 0, none⟩ (.slice A n c)).heap[g]? = (w1.setCell ⟨g3, j, none⟩ (.bool true)).heap[g]? := fun g hg => heap_setCell_other _ _ _ _ hg
  have hown : (Value.slice A n c).ownBlock = (Value.slice A R.length c).ownBlock := by cases A <;> rfl
  refine ⟨hb, ⟨heap_setCell_same _ bg 0 _ _ _ hb, ?_, ?_, ?_, ?_⟩, keepsC_setC (keepsC_setC (KeepsC.refl _ _) (.inr (.inr (.inr h3))) _) (.inl rfl) _⟩
  · have hr := row_cut1 h.r1 hn
    rw [List.length_take, Nat.min_eq_left hn, List.map_take]
    exact row_keep hr fun g e => (hs2 g fun e' => row_ty h.r1 h.box (by decide) (by rw [← hown, e, e'])).trans (hs1 g fun e' => row_ty2 h.r3 h.r1 (by decide) g3 h3 (by rw [← hown, e, e']))
  · exact row_keep h.r2 fun g e => (hs2 g fun e' => row_ty h.r2 h.box (by decide) (e' ▸ e)).trans (hs1 g fun e' => row_ty2 h.r3 h.r2 (by decide) g3 h3 (e' ▸ e))
  · have hr := row_set1 h.r3 hv hj (.bool true)
    rw [List.length_set, List.map_set]
    exact row_keep hr fun g e => hs2 g fun e' => row_ty h.r3 h.box (by decide) (e' ▸ e)
  · intro g hg
    rcases hg with rfl | e | e | e
    · exact h.s g (.inl rfl)
    · exact h.s g (.inr (.inl (hown ▸ e)))
    · exact h.s g (.inr (.inr (.inl e)))
    · exact h.s g (.inr (.inr (.inr e)))
end
end Go.Proofs.YthgglobfkkcdgaaGreat
namespace Go.Proofs.YthgglobfkkcdgaaGreat
open Go.RowKit Go.Shelf
set_option maxRecDepth 100000
theorem row_cap {w : World} {base n size : Nat} {e : TypeId} {A : Option Addr} {c : Nat} {vs : List Value} (h : w.ownsRow base e size (.slice A n c) n vs) : n ≤ c := by
  rcases h.2 with ⟨hv, h0⟩ | ⟨g', cap, cur, hv, _, _, hn, _⟩
  · omega
  · injection hv with _ _ e3; omega
section
variable {q : Nat → Int} {k : FuncId} {fs cv : Array Value} {N S : Nat → Prop} {bg : Nat} {v1 v2 v3 : Value} {rels rows : List Int} {gone : List Bool}
structure AddI (q : Nat → Int) (S : Nat → Prop) (bg : Nat) (v1 v2 v3 : Value) (rels rows : List Int) (gone : List Bool) (w : World) (m : Nat) (A : Option Addr) (c : Nat) (wr : World) : Prop where
  g : GrdW wr S bg (.slice A (rels.length + m) c) v2 v3 (rels ++ (colR q gone).take m) rows gone
  kp : KeepsC (OwnG bg v1 v2 v3) w wr
  own : ∀ g, (Value.slice A (rels.length + m) c).ownBlock = some g → v1.ownBlock = some g ∨ w.heap.size ≤ g
  no : ∀ j, j < m → gone[j]? = some false → q j ≠ 2
  len : m ≤ gone.length
theorem AddI.rl {w wr : World} {m c : Nat} {A : Option Addr} (h : AddI q S bg v1 v2 v3 rels rows gone w m A c wr) : (rels ++ (colR q gone).take m).length = rels.length + m := by
  rw [List.length_append, List.length_take, colR_len, Nat.min_eq_left h.len]
theorem AddI.push {w wr w1 w5 : World} {m c : Nat} {A A5 : Option Addr} {c5 : Nat} {o : Obj} {x : Int} (h : AddI q S bg v1 v2 v3 rels rows gone w m A c wr) (hb : Below wr.heap.size wr w1) (hS : ∀ g, w.heap.size ≤ g → S g) (hm : m < gone.length) (hx : x = if gone.getD m false = true then 0 else q m) (hno : gone[m]? = some false → q m ≠ 2)
    (hown : w5.ownsRow 0 30 1 (.slice A5 (rels.length + m + 1) c5) (rels.length + m + 1) ((rels ++ (colR q gone).take m).map (Value.int .i64) ++ [.int .i64 x])) (hgr : (w1.alloc o).grownBy w5 (Value.slice A (rels.length + m) c).ownBlock) (hat : (Value.slice A5 (rels.length + m + 1) c5).ownBlock = (Value.slice A (rels.length + m) c).ownBlock ∨ (Value.slice A5 (rels.length + m + 1) c5).ownBlock = some (w1.alloc o).heap.size) :
    w5.heap[bg]? = some (.cells #[.slice A (rels.length + m) c, v2, v3] 63) ∧ AddI q S bg v1 v2 v3 rels rows gone w (m + 1) A5 c5 (w5.setCell ⟨bg, 0, none⟩ (.slice A5 (rels.length + m + 1) c5)) := by
  have hz : w.heap.size ≤ w1.heap.size := Nat.le_trans h.kp.size hb.size
  obtain ⟨h1, h2, h3, h4⟩ := grd_app1 (h.g.on hb) (fun g hg => hS g (Nat.le_trans hz hg)) (by rw [h.rl]; exact hown) hgr hat
  refine ⟨h1, ⟨?_, ?_, ?_, fun j hj => ?_, hm⟩⟩
  · rw [colR_take hm, ← hx, ← List.append_assoc]; exact h2
  · refine keepsC_thru (keepsC_thru h.kp (KeepsC.of_below (C := OwnG bg v1 v2 v3) hb) fun _ _ hg => hg) h3 fun g hg hd => ?_
    rcases hd with e | e | e | e
    · exact .inl e
    · rcases h.own g e with e | e
      · exact .inr (.inl e)
      · omega
    · exact .inr (.inr (.inl e))
    · exact .inr (.inr (.inr e))
  · intro g e
    rcases h4 g e with e | e
    · exact h.own g e
    · exact .inr (by omega)
  · by_cases e : j = m
    · subst e; exact hno
    · exact h.no j (by omega)
set_option maxHeartbeats 4000000 in
theorem gAdd_any (w : World) (hG : GrdW w S bg v1 v2 v3 rels rows gone) (hC : ColC k fs cv N w q gone.length) (hN : ∀ g, N g → g < w.heap.size ∧ ¬ OwnG bg v1 v2 v3 g) (hS : ∀ g, w.heap.size ≤ g → S g) (hl1 : rels.length + gone.length ≤ 1099511627776) (hl2 : rows.length ≤ 1099511627776) :
    Calls Tryz.prog 37 #[.pointer (some ⟨bg, 0, none⟩), .func (.func k) fs cv] w (AddPost q S bg v1 v2 v3 rels rows gone w) := by
  obtain ⟨A1, c1, rfl⟩ := row_slice hG.r1
  obtain ⟨A2, c2, rfl⟩ := row_slice hG.r2
  obtain ⟨A3, c3, rfl⟩ := row_slice hG.r3
  obtain ⟨i0, hi, hz0, hz1, hz2⟩ := info_parts info_rel
  obtain ⟨j0, hj, hy0, hy1, hy2⟩ := info_parts info_int
  obtain ⟨b0, b1, b2, _, _, _⟩ := cells_three hG.box
  have HI0 : Hid (AddI q S bg (.slice A1 rels.length c1) (.slice A2 rows.length c2) (.slice A3 gone.length c3) rels rows gone w 0 A1 c1 w) := Lib.hid ⟨by simpa using hG, KeepsC.refl _ _, fun g e => .inl e, fun j hj => absurd hj (Nat.not_lt_zero _), Nat.zero_le _⟩
  have HG := Lib.hid hG
  have HN := Lib.hid hN
  have HS := Lib.hid hS
  have HC := Lib.hid hC
  have hent := hC.ent
  clear hG hN hS hC
  go_enter Tryz.func37, Tryz.ntmps37
  go_wp2
  go_loopw [18] (fun i wr => ∃ (m : Nat) (A : Option Addr) (c : Nat), m ≤ gone.length ∧ i = .int .i64 (m : Int) ∧ Hid (AddI q S bg (.slice A1 rels.length c1) (.slice A2 rows.length c2) (.slice A3 gone.length c3) rels rows gone w m A c wr)) (fun i _ => gone.length - (intOf i).toNat)
  case atStart => exact ⟨0, A1, c1, Nat.zero_le _, rfl, HI0⟩
  case round =>
    obtain ⟨m, A, c, hm, rfl, HI⟩ := hrel
    by_cases hlt : m < gone.length
    · obtain ⟨x, hx⟩ : ∃ x, gone[m]? = some x := ⟨_, List.getElem?_eq_getElem hlt⟩
      obtain ⟨a0, a1, a2, _, _, _⟩ := cells_three HI.out.g.box
      obtain ⟨g3, c3', hv3, hg3, e3, f3⟩ := HI.out.g.gone_at hx
      injection hv3 with hA3 _ hc3
      subst hA3
      subst hc3
      have hrl : ∀ g, (Value.slice A (rels.length + m) c).ownBlock = some g → g < wr.heap.size := fun g e => HI.out.g.lt g (.inr (.inl e))
      have hwr1 : IntKind.i64.wrap ((m : Int) + 1) = (m : Int) + 1 := by rw [IntKind.wrap_i64]; omega
      have hbx : bg < wr.heap.size := HI.out.g.lt bg (.inl rfl)
      cases x with
      | true =>
        have hd : gone.getD m false = true := by rw [List.getD_eq_getElem?_getD, hx]; rfl
        have hpx : (0 : Int) = if gone.getD m false = true then 0 else q m := by rw [if_pos hd]
        have hpn : gone[m]? = some false → q m ≠ 2 := fun e => by rw [hx] at e; cases e
        have HPX := Lib.hid hpx
        have HPN := Lib.hid hpn
        clear hd hpx hpn hx
        go_wp2_with (first
          | (at_builtin
             go_must (
             refine wpList_append_own_at _ rfl _ _ 61 rfl 0 30 i0 (.int .i64 0) 1 8 Tryz.underlying61 hi hz0 hz1 hz2 rfl (by decide) (.slice A (rels.length + m) c) (rels.length + m) _ rfl (row_keep (by have := HI.out.g.r1; rwa [HI.out.rl] at this) fun g e => (Below.heap_alloc wr _ g (Nat.lt_of_lt_of_le (hrl g e) (Below.refl wr.heap.size wr).size)).trans ((Below.refl wr.heap.size wr).block g (hrl g e))) ⟨wr.heap.size, 0, none⟩ 1 1 [.int .i64 0] rfl rfl (cell_one_new _ _ _) (by simp [Value.oneCell']) (by unfold maxLen; omega) (by omega) (by simp) ?_
             intro v5 w5 hown5 hgr5 _ hat5
             obtain ⟨A5, c5, rfl⟩ := row_slice hown5
             have H5 := Lib.hid (HI.out.push (Below.refl wr.heap.size wr) HS.out hlt HPX.out HPN.out hown5 hgr5 hat5)
             have hfz := frozen_9 H5.out.1 0
             have hc5 := (cells_three H5.out.1).1
             clear hown5 hgr5 hat5))
          | fail)
        go_roundw
        case rel => exact ⟨m + 1, A5, c5, by omega, by go_num, Lib.hid H5.out.2⟩
        case measure => simp [intOf]; omega
      | false =>
        have hd : gone.getD m false = false := by rw [List.getD_eq_getElem?_getD, hx]; rfl
        have HQ := Lib.hid (HC.out.call m wr hlt (HI.out.kp.k.mono fun g hg => HN.out g hg))
        by_cases hq : q m = 2
        · rw [hq] at HQ
          have Hx := Lib.hid hx
          have Hq := Lib.hid hq
          have hcap : rels.length + m ≤ c := row_cap (HI.out.rl ▸ HI.out.g.r1)
          clear hx hq hd
          go_wp2_with (first
            | ((with_reducible refine HQ.out.mono ?_); go_must (rintro e w1 ⟨rfl, hb1⟩; have y0 := cell_on hb1 hbx a0; have y1 := cell_on hb1 hbx a1; have y2 := cell_on hb1 hbx a2; have z3 := cell_on hb1 hg3 e3; have u3 := (World.frozen?_of_block (a := ⟨g3, m, none⟩) (hb1.block g3 hg3)).trans f3; have HH := Lib.hid (grd_hit (n := rels.length) (HI.out.g.on hb1) HI.out.rl rfl hlt (by omega)); obtain ⟨t0, t1, t2, s0, s1, s2⟩ := cells_three HH.out.1))
            | fail)
          refine bodyPost_ret (v := .tuple #[]) (by simp [results, Tryz.results37, go_sem]) rfl ?_
          refine ⟨rfl, .slice A rels.length c, .slice A2 rows.length c2, rels, rows, gone.set m true, ?_, .inl ⟨m, Hx.out, Hq.out, HI.out.no, rfl, rfl, rfl⟩, ?_⟩
          · have := HH.out.2.1
            rwa [List.take_left' rfl] at this
          · refine keepsC_thru (keepsC_thru HI.out.kp (KeepsC.of_below (C := fun _ => False) hb1) fun _ _ hg => hg.elim) HH.out.2.2 fun g hg hd => ?_
            rcases hd with e | e | e | e
            · exact .inl e
            · rcases HI.out.own g e with e | e
              · exact .inr (.inl e)
              · omega
            · exact .inr (.inr (.inl e))
            · exact .inr (.inr (.inr e))
        · have hpx : q m = if gone.getD m false = true then 0 else q m := by rw [hd]; rfl
          have HPX := Lib.hid hpx
          have HPN : Hid (gone[m]? = some false → q m ≠ 2) := Lib.hid fun _ => hq
          obtain ⟨r, hr⟩ : ∃ r, q m = r := ⟨_, rfl⟩
          have hq2 : (r == 2) = false := by rw [← hr]; simpa using hq
          have HPX2 : Hid (r = if gone.getD m false = true then 0 else q m) := Lib.hid (hr ▸ HPX.out)
          rw [hr] at HQ
          clear hpx hd hx hq hr HPX
          go_wp2_with (first
            | (at_builtin
               go_must (
               refine wpList_append_own_at _ rfl _ _ 61 rfl 0 30 i0 (.int .i64 0) 1 8 Tryz.underlying61 hi hz0 hz1 hz2 rfl (by decide) (.slice A (rels.length + m) c) (rels.length + m) _ rfl (row_keep (by have := HI.out.g.r1; rwa [HI.out.rl] at this) fun g e => (Below.heap_alloc w1 _ g (Nat.lt_of_lt_of_le (hrl g e) hb1.size)).trans (hb1.block g (hrl g e))) ⟨w1.heap.size, 0, none⟩ 1 1 [.int .i64 r] rfl rfl (cell_one_new _ _ _) (by simp [Value.oneCell']) (by unfold maxLen; omega) (by omega) (by simp) ?_
               intro v5 w5 hown5 hgr5 _ hat5
               obtain ⟨A5, c5, rfl⟩ := row_slice hown5
               have H5 := Lib.hid (HI.out.push hb1 HS.out hlt HPX2.out HPN.out hown5 hgr5 hat5)
               have hfz := frozen_9 H5.out.1 0
               have hc5 := (cells_three H5.out.1).1
               clear hown5 hgr5 hat5))
            | ((with_reducible refine HQ.out.mono ?_); go_must (rintro e w1 ⟨rfl, hb1⟩; have y0 := cell_on hb1 hbx a0; have y1 := cell_on hb1 hbx a1; have y2 := cell_on hb1 hbx a2; have hz9 := hb1.size))
            | fail)
          go_roundw
          case rel => exact ⟨m + 1, A5, c5, by omega, by go_num, Lib.hid H5.out.2⟩
          case measure => simp [intOf]; omega
    · obtain rfl : m = gone.length := by omega
      obtain ⟨a0, a1, a2, _, _, _⟩ := cells_three HI.out.g.box
      have hrl : ∀ g, (Value.slice A2 rows.length c2).ownBlock = some g → g < wr.heap.size := fun g e => HI.out.g.lt g (.inr (.inr (.inl e)))
      have hz9 := HI.out.kp.size
      go_wp2_with (first
        | (at_builtin
           go_must (
           refine wpList_append_own_at _ rfl _ _ 22 rfl 0 3 j0 (.int .i64 0) 1 8 Tryz.underlying22 hj hy0 hy1 hy2 rfl (by decide) (.slice A2 rows.length c2) rows.length _ rfl (row_keep HI.out.g.r2 fun g e => Below.heap_alloc wr _ g (hrl g e)) ⟨wr.heap.size, 0, none⟩ 1 1 [.int .i64 (rels.length : Int)] rfl rfl (cell_one_new _ _ _) (by simp [Value.oneCell']) (by unfold maxLen; omega) (by omega) (by simp) ?_
           intro v5 w5 hown5 hgr5 _ hat5
           obtain ⟨A5, c5, rfl⟩ := row_slice hown5
           have H5 := Lib.hid (grd_app2 HI.out.g (fun g hg => HS.out g (Nat.le_trans hz9 hg)) hown5 hgr5 hat5)
           have hfz := frozen_9 H5.out.1 1
           have hc5 := (cells_three H5.out.1).2.1
           clear hown5 hgr5 hat5))
        | fail)
      go_end0
      refine ⟨rfl, _, _, _, _, gone, H5.out.2.1, .inr ⟨fun i h => HI.out.no i (List.getElem?_eq_some_iff.1 h).1 h, rfl, ?_, rfl⟩, ?_⟩
      · rw [List.take_of_length_le (by rw [colR_len]; omega)]
      · refine keepsC_thru HI.out.kp H5.out.2.2 fun g hg hd => ?_
        rcases hd with e | e | e | e
        · exact .inl e
        · rcases HI.out.own g e with e | e
          · exact .inr (.inl e)
          · omega
        · exact .inr (.inr (.inl e))
        · exact .inr (.inr (.inr e))
end
end Go.Proofs.YthgglobfkkcdgaaGreat
namespace Go.Proofs.YthgglobfkkcdgaaGreat
open Go.RowKit Go.Shelf
set_option maxRecDepth 100000
set_option maxRecDepth 100000
structure OrdW (base : Nat) (v : Value) (w : World) (v' : Value) (l : List Int) (w' : World) : Prop where
  row : IntsR w' base v' l
  gr : w.grownBy w' v.ownBlock
  own : ∀ g, v'.ownBlock = some g → v.ownBlock = some g ∨ w.heap.size ≤ g
theorem ord_app {base : Nat} {v v5 : Value} {w wr w5 : World} {l : List Int} {x : Int} {o : Obj} (h : IntsR w base v l) (hb : Below w.heap.size w wr) (hx : I64 x) (hown : w5.ownsRow base 3 1 v5 (l.length + 1) (l.map (Value.int .i64) ++ [.int .i64 x])) (hgr : (wr.alloc o).grownBy w5 v.ownBlock) (hat : v5.ownBlock = v.ownBlock ∨ v5.ownBlock = some (wr.alloc o).heap.size) : OrdW base v w v5 (l ++ [x]) w5 := by
  have hs := hb.size
  have hs5 := hgr.size
  have hsz : wr.heap.size + 1 ≤ w5.heap.size := by simpa using hs5
  refine ⟨⟨by simpa using hown, fun y hy => ?_⟩, ⟨hgr.os.trans hb.os, hgr.tape.trans hb.tape, hgr.output.trans hb.output, by omega, fun g hg hn => ?_⟩, fun g e => ?_⟩
  · rcases List.mem_append.1 hy with hy | hy
    · exact h.i64 y hy
    · simp at hy; subst hy; exact hx
  · exact (hgr.block g (by simp; omega) hn).trans ((Below.heap_alloc wr o g (by omega)).trans (hb.block g hg))
  · rcases hat with h' | h'
    · rw [h'] at e; exact .inl e
    · rw [h'] at e; injection e with e; simp at e; exact .inr (by omega)
end Go.Proofs.YthgglobfkkcdgaaGreat
namespace Go.Proofs.YthgglobfkkcdgaaGreat
open Go.RowKit Go.Shelf
set_option maxRecDepth 100000
def colsT (gone : List Bool) (m : Nat) : List Int := ((List.range m).filter fun j => !gone.getD j false).map fun j : Nat => (j : Int)
def colsI (gone : List Bool) : List Int := colsT gone gone.length
theorem colsT_succ (gone : List Bool) (m : Nat) : colsT gone (m + 1) = colsT gone m ++ (if gone.getD m false = true then [] else [(m : Int)]) := by
  unfold colsT
  rw [List.range_succ, List.filter_append, List.map_append]
  cases h : gone.getD m false <;> simp at h <;> simp [h]
theorem colsT_len (gone : List Bool) : ∀ m, (colsT gone m).length ≤ m
  | 0 => by simp [colsT]
  | m + 1 => by
    have := colsT_len gone m
    rw [colsT_succ, List.length_append]
    split <;> simp <;> omega
section
variable {S : Nat → Prop} {bg : Nat} {v1 v2 v3 : Value} {rels rows : List Int} {gone : List Bool}
theorem grown_below {w w1 w5 : World} {o : Obj} {v : Value} {e : TypeId} {n size : Nat} {vs : List Value} (hb : Below w.heap.size w w1) (hr : w1.ownsRow w.heap.size e size v n vs) (hgr : (w1.alloc o).grownBy w5 v.ownBlock) : Below w.heap.size w w5 :=
  (hb.alloc hb.size o).trans ⟨hgr.os, hgr.tape, hgr.output, hgr.size, fun g hg => hgr.block g (by have := hb.size; simp; omega) fun e => by have := (row_lt hr g e.symm).1; omega⟩
set_option maxHeartbeats 2000000 in
theorem gColumns_any (w : World) (hG : GrdW w S bg v1 v2 v3 rels rows gone) (hl : gone.length ≤ 1099511627776) :
    Calls Tryz.prog 53 #[.pointer (some ⟨bg, 0, none⟩)] w fun e w' => ∃ v, e = .returned v ∧ IntsR w' w.heap.size v (colsI gone) ∧ Below w.heap.size w w' := by
  obtain ⟨A3, c3, rfl⟩ := row_slice hG.r3
  obtain ⟨j0, hj, hy0, hy1, hy2⟩ := info_parts info_int
  obtain ⟨b0, b1, b2, _, _, _⟩ := cells_three hG.box
  have HI0 : Hid (IntsR w w.heap.size (.slice none 0 0) (colsT gone 0)) := Lib.hid ⟨⟨by simp [colsT], .inl ⟨rfl, rfl⟩⟩, fun x hx => by simp [colsT] at hx⟩
  have HG := Lib.hid hG
  clear hG
  go_enter Tryz.func53, Tryz.ntmps53
  go_wp2
  go_loopw [3, 11] (fun s i wr => ∃ (m : Nat), m ≤ gone.length ∧ i = .int .i64 (m : Int) ∧ Below w.heap.size w wr ∧ Hid (IntsR wr w.heap.size s (colsT gone m))) (fun _ i _ => gone.length - (intOf i).toNat)
  case atStart => exact ⟨0, Nat.zero_le _, rfl, Below.refl _ _, HI0⟩
  case round =>
    obtain ⟨m, hm, rfl, hBr, HI⟩ := hrel
    obtain ⟨A, c, rfl⟩ := row_slice HI.out.row
    by_cases hlt : m < gone.length
    · obtain ⟨x, hx⟩ : ∃ x, gone[m]? = some x := ⟨_, List.getElem?_eq_getElem hlt⟩
      obtain ⟨g3, c3', hv3, hg3, e3, f3⟩ := (HG.out.on hBr).gone_at hx
      injection hv3 with hA3 _ hc3
      subst hA3
      subst hc3
      have hwr1 : IntKind.i64.wrap ((m : Int) + 1) = (m : Int) + 1 := by rw [IntKind.wrap_i64]; omega
      have hcl := colsT_len gone m
      have hss := hBr.size
      have hrl := row_lt HI.out.row
      cases x with
      | true =>
        have HN : Hid (IntsR wr w.heap.size (.slice A (colsT gone m).length c) (colsT gone (m + 1))) := Lib.hid (by
          rw [colsT_succ, if_pos (by rw [List.getD_eq_getElem?_getD, hx]; rfl), List.append_nil]; exact HI.out)
        clear hx
        go_wp2
        go_roundw
        case rel => exact ⟨m + 1, by omega, by go_num, hBr, HN⟩
        case measure => simp [intOf]; omega
      | false =>
        have hcs : colsT gone (m + 1) = colsT gone m ++ [(m : Int)] := by rw [colsT_succ, if_neg (by rw [List.getD_eq_getElem?_getD, hx]; decide)]
        have HCS := Lib.hid hcs
        clear hx hcs
        go_wp2_with (first
          | (at_builtin
             go_must (
             refine wpList_append_own_at _ rfl _ _ 22 rfl w.heap.size 3 j0 (.int .i64 0) 1 8 Tryz.underlying22 hj hy0 hy1 hy2 rfl (by decide) (.slice A (colsT gone m).length c) (colsT gone m).length _ rfl (row_keep HI.out.row fun g e => Below.heap_alloc wr _ g (hrl g e).2) ⟨wr.heap.size, 0, none⟩ 1 1 [.int .i64 (m : Int)] rfl rfl (cell_one_new _ _ _) (by simp [Value.oneCell']) (by unfold maxLen; omega) (by omega) (by simp; omega) ?_
             intro v5 w5 hown5 hgr5 _ hat5
             obtain ⟨A5, c5, rfl⟩ := row_slice hown5
             have H5 := Lib.hid (ord_app HI.out (Below.refl _ _) (show I64 (m : Int) from ⟨by omega, by omega⟩) hown5 hgr5 hat5)
             have HB5 := Lib.hid (grown_below hBr HI.out.row hgr5)
             clear hown5 hgr5 hat5))
          | fail)
        go_roundw
        case rel => exact ⟨m + 1, by omega, by go_num, HB5.out, Lib.hid (by rw [HCS.out]; exact H5.out.row)⟩
        case measure => simp [intOf]; omega
    · obtain rfl : m = gone.length := by omega
      go_wp2
      go_ret
      exact ⟨_, rfl, HI.out, hBr⟩
theorem GrdW.rel_at {w : World} (h : GrdW w S bg v1 v2 v3 rels rows gone) {i : Nat} {x : Int} (hx : rels[i]? = some x) : ∃ g c, v1 = .slice (some ⟨g, 0, none⟩) rels.length c ∧ g < w.heap.size ∧ w.cell? ⟨g, i, none⟩ = some (.int .i64 x) := by
  have hlt := (List.getElem?_eq_some_iff.1 hx).1
  have hr := h.r1
  rcases hr.2 with ⟨_, h0⟩ | ⟨g, cap, cur, rfl, hb, hg, _⟩
  · omega
  · refine ⟨g, cap, rfl, (Array.getElem?_eq_some_iff.1 hg).1, ?_⟩
    rw [hr.cellAt i (by simpa using hlt)]
    simp [hx]
theorem gStand_any (w : World) (hG : GrdW w S bg v1 v2 v3 rels rows gone) {i j : Nat} {r : Int} (hx : rels[i + j]? = some r) (hl : rels.length ≤ 4611686018427387904) :
    Calls Tryz.prog 55 #[.pointer (some ⟨bg, 0, none⟩), .int .i64 (i : Int), .int .i64 (j : Int)] w fun e w' => e = .returned (.int .i64 r) ∧ Below w.heap.size w w' := by
  have hlt := (List.getElem?_eq_some_iff.1 hx).1
  obtain ⟨g, c, rfl, hg, hc⟩ := hG.rel_at hx
  obtain ⟨b0, b1, b2, _, _, _⟩ := cells_three hG.box
  have hw : IntKind.i64.wrap ((i : Int) + (j : Int)) = ((i + j : Nat) : Int) := by rw [IntKind.wrap_i64]; omega
  clear hG hx
  go_enter Tryz.func55, Tryz.ntmps55
  go_wp2
  go_ret
  exact ⟨rfl, Below.refl _ _⟩
theorem gTurned_any (w : World) (hG : GrdW w S bg v1 v2 v3 rels rows gone) {i j : Nat} {r : Int} (hx : rels[i + j]? = some r) (h4 : In4 r) (hl : rels.length ≤ 4611686018427387904) :
    Calls Tryz.prog 56 #[.pointer (some ⟨bg, 0, none⟩), .int .i64 (j : Int), .int .i64 (i : Int)] w fun e w' => e = .returned (.int .i64 (trnI r)) ∧ Below w.heap.size w w' := by
  have HS := Lib.hid (gStand_any w hG hx hl)
  clear hG hx
  rcases h4 with rfl | rfl | rfl | rfl
  · have hix : ∀ w : World, (Instr.index 120 (.agg #[.int .i64 0, .int .i64 3, .int .i64 2, .int .i64 1]) (.int .i64 0)).run Tryz.prog w = .ok (.int .i64 0) w := fun w => by kernel_rfl
    go_enter Tryz.func56, Tryz.ntmps56
    go_wp2_with (first
      | (go_at_call 55; go_must ((with_reducible refine HS.out.mono ?_); rintro e w1 ⟨rfl, hb1⟩; have hix1 := hix w1))
      | fail)
    go_ret
    exact ⟨rfl, hb1⟩
  · have hix : ∀ w : World, (Instr.index 120 (.agg #[.int .i64 0, .int .i64 3, .int .i64 2, .int .i64 1]) (.int .i64 1)).run Tryz.prog w = .ok (.int .i64 3) w := fun w => by kernel_rfl
    go_enter Tryz.func56, Tryz.ntmps56
    go_wp2_with (first
      | (go_at_call 55; go_must ((with_reducible refine HS.out.mono ?_); rintro e w1 ⟨rfl, hb1⟩; have hix1 := hix w1))
      | fail)
    go_ret
    exact ⟨rfl, hb1⟩
  · have hix : ∀ w : World, (Instr.index 120 (.agg #[.int .i64 0, .int .i64 3, .int .i64 2, .int .i64 1]) (.int .i64 2)).run Tryz.prog w = .ok (.int .i64 2) w := fun w => by kernel_rfl
    go_enter Tryz.func56, Tryz.ntmps56
    go_wp2_with (first
      | (go_at_call 55; go_must ((with_reducible refine HS.out.mono ?_); rintro e w1 ⟨rfl, hb1⟩; have hix1 := hix w1))
      | fail)
    go_ret
    exact ⟨rfl, hb1⟩
  · have hix : ∀ w : World, (Instr.index 120 (.agg #[.int .i64 0, .int .i64 3, .int .i64 2, .int .i64 1]) (.int .i64 3)).run Tryz.prog w = .ok (.int .i64 1) w := fun w => by kernel_rfl
    go_enter Tryz.func56, Tryz.ntmps56
    go_wp2_with (first
      | (go_at_call 55; go_must ((with_reducible refine HS.out.mono ?_); rintro e w1 ⟨rfl, hb1⟩; have hix1 := hix w1))
      | fail)
    go_ret
    exact ⟨rfl, hb1⟩
end
end Go.Proofs.YthgglobfkkcdgaaGreat
