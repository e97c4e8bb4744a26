/- Add: what it answers, in plain words. -/
import Derived.Test.YtmcdnjhdmifpeaaDoorW11
import Derived.Test.YtmcdnjhdmifpeaaDoorW7
namespace Go.Proofs.YtmcdnjhdmifpeaaDoor
open Go.RowKit

def addOne (acc : List Sm) (x : Sm) : List Sm := if x ∈ acc then acc else acc ++ [x]
def addAll (l m : List Sm) : List Sm := m.foldl addOne l
def badB (x : Sm) : Bool := decide (oneI x.name x.arity ≠ 0) && decide (x ≠ truthSm)
def addE (l m : List Sm) : Int :=
  if checkI l ≠ 0 then checkI l else
  match m.find? badB with
  | some x => oneI x.name x.arity
  | none => if 96 < (addAll l m).length then 3 else 0
def addL (l m : List Sm) : List Sm := if addE l m = 0 then addAll l m else []

theorem addOne_len (acc : List Sm) (x : Sm) : acc.length ≤ (addOne acc x).length := by
  unfold addOne; split
  · exact Nat.le_refl _
  · simp
theorem addOne_len' (acc : List Sm) (x : Sm) : (addOne acc x).length ≤ acc.length + 1 := by
  unfold addOne; split
  · omega
  · simp
theorem addAll_len (l m : List Sm) : l.length ≤ (addAll l m).length := by
  induction m generalizing l with
  | nil => exact Nat.le_refl _
  | cons x m ih => exact Nat.le_trans (addOne_len l x) (ih (addOne l x))
theorem addAll_len' (l m : List Sm) : (addAll l m).length ≤ l.length + m.length := by
  induction m generalizing l with
  | nil => exact Nat.le_refl _
  | cons x m ih => have h1 := ih (addOne l x); have h2 := addOne_len' l x; simp only [addAll, List.foldl_cons, List.length_cons] at *; omega
theorem take_next {m : List Sm} {k : Nat} {x : Sm} (hx : m[k]? = some x) : m.take (k + 1) = m.take k ++ [x] := by rw [List.take_add_one, hx]; rfl
theorem addAll_next {l m : List Sm} {k : Nat} {x : Sm} (hx : m[k]? = some x) : addAll l (m.take (k + 1)) = addOne (addAll l (m.take k)) x := by
  rw [take_next hx]; simp [addAll]
theorem addAll_mono (l m : List Sm) (k : Nat) : (addAll l (m.take k)).length ≤ (addAll l m).length := by
  have : addAll l m = addAll (addAll l (m.take k)) (m.drop k) := by
    unfold addAll
    rw [← List.foldl_append, List.take_append_drop]
  rw [this]
  exact addAll_len _ _
theorem addAll_ok {l m : List Sm} (hl : ∀ x ∈ l, x.Ok) (hm : ∀ x ∈ m, x.Ok) : ∀ x ∈ addAll l m, x.Ok := by
  induction m generalizing l with
  | nil => exact hl
  | cons y m ih =>
    refine ih (l := addOne l y) (fun x hx => ?_) (fun x hx => hm x (List.mem_cons_of_mem _ hx))
    unfold addOne at hx
    split at hx
    · exact hl x hx
    · rcases List.mem_append.1 hx with hx | hx
      · exact hl x hx
      · rw [List.mem_singleton] at hx; subst hx; exact hm x (by simp)

theorem addE_check {l m : List Sm} (h : checkI l ≠ 0) : addE l m = checkI l := by simp [addE, h]
theorem addE_bad {l m : List Sm} {k : Nat} {x : Sm} (h : checkI l = 0) (hx : m[k]? = some x) (hb : badB x = true) (hpre : ∀ j y, j < k → m[j]? = some y → badB y = false) : addE l m = oneI x.name x.arity := by
  have : m.find? badB = some x := by
    rw [List.find?_eq_some_iff_getElem]
    obtain ⟨hk, e⟩ := List.getElem?_eq_some_iff.1 hx
    refine ⟨hb, k, hk, e, fun j hj => ?_⟩
    rw [hpre j _ hj (List.getElem?_eq_getElem (by omega))]
    rfl
  simp [addE, h, this]
theorem addE_good {l m : List Sm} (h : checkI l = 0) (hpre : ∀ j y, j < m.length → m[j]? = some y → badB y = false) : addE l m = if 96 < (addAll l m).length then 3 else 0 := by
  have : m.find? badB = none := by
    rw [List.find?_eq_none]
    intro x hx
    obtain ⟨j, hj, rfl⟩ := List.getElem_of_mem hx
    rw [hpre j _ hj (List.getElem?_eq_getElem hj)]
    simp
  simp [addE, h, this]
theorem bad_before {m : List Sm} {k : Nat} {y : Sm} (h : ∀ j y, j < k → m[j]? = some y → badB y = false) (hy : m[k]? = some y) (hb : badB y = false) : ∀ j y, j < k + 1 → m[j]? = some y → badB y = false := by
  intro j z hlt hz
  by_cases e : j = k
  · subst e; rw [hy] at hz; injection hz with hz; subst hz; exact hb
  · exact h j z (by omega) hz
theorem check_short {l : List Sm} (h : checkI l = 0) : l.length ≤ 96 := by
  unfold checkI at h
  split at h
  · omega
  · omega
theorem addL_err {l m : List Sm} {v : Int} (h : addE l m = v) (hv : v ≠ 0) : addL l m = [] := by
  unfold addL; rw [if_neg (by rw [h]; exact hv)]
theorem addL_ok {l m : List Sm} (h : addE l m = 0) : addL l m = addAll l m := by
  unfold addL; rw [if_pos h]
/-- The answer of Add: a signature and an error. -/
def AddPost (l m : List Sm) (w : World) (e : Ending) (w' : World) : Prop := ∃ v, e = .returned (.tuple #[v, .int .i64 (addE l m)]) ∧ IsSig w' (addL l m) v ∧ Below w.heap.size w w'
theorem isSig_zero (w : World) : IsSig w [] (.agg #[.slice none 0 0]) := ⟨none, 0, rfl, Syms.nil_ _ _ _⟩
theorem addPost_err {l m : List Sm} {w w' : World} {v : Int} (h : addE l m = v) (hv : v ≠ 0) (hb : Below w.heap.size w w') : AddPost l m w (.returned (.tuple #[.agg #[.slice none 0 0], .int .i64 v])) w' :=
  ⟨_, by rw [h], by rw [addL_err h hv]; exact isSig_zero _, hb⟩

theorem Own.ge {w : World} {base : Nat} {v : Value} {l : List Sm} (h : Own w base v l) {g : Nat} (hg : v.ownBlock = some g) : base ≤ g := by
  rcases h.row.2 with ⟨rfl, _⟩ | ⟨g', cap, cur, rfl, hb, _⟩
  · simp [Value.ownBlock] at hg
  · simp [Value.ownBlock] at hg; omega
theorem Own.under {w w' : World} {base b : Nat} {v : Value} {l : List Sm} (h : Own w base v l) (hg : w.grownBy w' v.ownBlock) (hb : b < base) (hlt : b < w.heap.size) : w'.heap[b]? = w.heap[b]? :=
  hg.block b hlt (fun e => by have := h.ge e.symm; omega)
theorem SMap.ne_own {w : World} {b n base : Nat} {f : Sm → Option Int} {v : Value} {l : List Sm} (h : SMap w b n f) (ho : Own w base v l) : some b ≠ v.ownBlock := by
  intro e
  obtain ⟨D, ⟨es, ck, hb, _⟩, _⟩ := h
  rcases ho.row.2 with ⟨rfl, _⟩ | ⟨g', cap, cur, rfl, _, hg, _⟩
  · simp [Value.ownBlock] at e
  · simp [Value.ownBlock] at e
    subst e
    rw [hb] at hg
    cases hg
theorem Own.map {w w' : World} {b n base : Nat} {f : Sm → Option Int} {v : Value} {l : List Sm} (ho : Own w base v l) (h : SMap w b n f) (hg : w.grownBy w' (some b)) : Own w' base v l := by
  refine ⟨⟨ho.row.1, ?_⟩, ho.ok⟩
  rcases ho.row.2 with h0 | ⟨g, cap, cur, hv, hbase, hh, hrest⟩
  · exact .inl h0
  · refine .inr ⟨g, cap, cur, hv, hbase, (hg.block g (Array.getElem?_eq_some_iff.1 hh).1 (fun e => ?_)).trans hh, hrest⟩
    injection e with e
    obtain ⟨D, ⟨es, ck, hb, _⟩, _⟩ := h
    rw [← e, hh] at hb
    cases hb
/-- What holds at the head of each round of the loop that adds. -/
structure AddAt (l m : List Sm) (w0 : World) (bM : Nat) (k : Nat) (A : Option Addr) (c : Nat) (f : Sm → Option Int) (cnt : Nat) (wr : World) : Prop where
  own : Own wr w0.heap.size (.slice A (addAll l (m.take k)).length c) (addAll l (m.take k))
  map : SMap wr bM cnt f
  cnt : cnt ≤ 96 + k
  at_ : ∀ x, (f x).isSome = decide (x ∈ addAll l (m.take k))
  few : (addAll l (m.take k)).length ≤ 96
  bel : Below w0.heap.size w0 wr
  far : w0.heap.size ≤ bM
theorem firstF_some (l : List Sm) (x : Sm) : (firstF l x).isSome = decide (x ∈ l) := by
  by_cases hx : x ∈ l
  · obtain ⟨k, hk, e⟩ := List.getElem_of_mem hx
    have h1 : ¬ atI l x < 0 := by
      intro hlt
      have h1 : l.findIdx? (· == x) = none := by
        cases hf : l.findIdx? (· == x) with
        | none => rfl
        | some i => simp [atI, hf] at hlt; omega
      rw [List.findIdx?_eq_none_iff] at h1
      have := h1 x hx
      simp at this
    simp [firstF, h1, hx]
  · have : atI l x = -1 := atI_miss l x (fun j hj e => hx (List.mem_of_getElem? e))
    simp [firstF, this, hx]
theorem AddAt.found {l m : List Sm} {w0 wr w' : World} {bM k c cnt : Nat} {A : Option Addr} {f : Sm → Option Int} (h : AddAt l m w0 bM k A c f cnt wr) {y : Sm} (hy : m[k]? = some y) (hin : y ∈ addAll l (m.take k)) (hb : Below wr.heap.size wr w') :
    AddAt l m w0 bM (k + 1) A c f cnt w' := by
  have e : addAll l (m.take (k + 1)) = addAll l (m.take k) := by rw [addAll_next hy, addOne, if_pos hin]
  refine ⟨?_, h.map.below hb, by have := h.cnt; omega, ?_, ?_, h.bel.trans (hb.mono h.bel.size), h.far⟩
  · rw [e]; exact h.own.below hb
  · rw [e]; exact h.at_
  · rw [e]; exact h.few

theorem AddAt.added {l m : List Sm} {w0 wr w' : World} {bM k c cnt A' c' : Nat} {A A2 : Option Addr} {f : Sm → Option Int} (h : AddAt l m w0 bM k A c f cnt wr) {y : Sm} {i : Int} (hy : m[k]? = some y) (hin : y ∉ addAll l (m.take k)) (hlt : (addAll l (m.take k)).length < 96)
    (hA : A' = (addAll l (m.take k)).length + 1) (ho : Own w' w0.heap.size (.slice A2 A' c') (addAll l (m.take k) ++ [y])) (hm : SMap w' bM (cnt + 1) (updS f y i)) (hb : Below w0.heap.size w0 w') :
    AddAt l m w0 bM (k + 1) A2 c' (updS f y i) (cnt + 1) w' := by
  have e : addAll l (m.take (k + 1)) = addAll l (m.take k) ++ [y] := by rw [addAll_next hy, addOne, if_neg hin]
  subst hA
  refine ⟨?_, hm, by have := h.cnt; omega, fun x => ?_, ?_, hb, h.far⟩
  · rw [e, List.length_append]; exact ho
  · rw [e]
    unfold updS
    by_cases ex : x = y
    · subst ex; simp
    · rw [if_neg ex, h.at_ x]; simp [ex]
  · rw [e, List.length_append, List.length_singleton]; omega
end Go.Proofs.YtmcdnjhdmifpeaaDoor
