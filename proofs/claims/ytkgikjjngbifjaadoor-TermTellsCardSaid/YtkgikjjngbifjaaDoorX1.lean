/- Texts tell terms apart: plain words. -/
import Derived.Test.YtkgikjjngbifjaaDoorG3
import Derived.Test.YtkgikjjngbifjaaDoorO1
namespace Go.Proofs.YtkgikjjngbifjaaDoor
open Go.RowKit

def isDel (c : UInt8) : Bool := c == 40 || c == 41 || c == 44
def noDel (h : List UInt8) : Prop := ∀ c ∈ h, isDel c = false
/-- Nothing, or a bracket or comma first. -/
def delFirst (r : List UInt8) : Prop := r = [] ∨ ∃ c r', r = c :: r' ∧ isDel c = true
theorem head_split : ∀ {h1 h2 x1 x2 : List UInt8}, noDel h1 → noDel h2 → delFirst x1 → delFirst x2 → h1 ++ x1 = h2 ++ x2 → h1 = h2 ∧ x1 = x2
  | [], [], _, _, _, _, _, _, e => ⟨rfl, e⟩
  | [], c :: h2, x1, x2, _, n2, d1, _, e => by
    rcases d1 with rfl | ⟨c', r', rfl, hc⟩
    · simp at e
    · simp at e
      have := n2 c (by simp)
      rw [← e.1, hc] at this; cases this
  | c :: h1, [], x1, x2, n1, _, _, d2, e => by
    rcases d2 with rfl | ⟨c', r', rfl, hc⟩
    · simp at e
    · simp at e
      have := n1 c (by simp)
      rw [e.1, hc] at this; cases this
  | c :: h1, c' :: h2, x1, x2, n1, n2, d1, d2, e => by
    simp at e
    obtain ⟨h, k⟩ := head_split (fun c hc => n1 c (by simp [hc])) (fun c hc => n2 c (by simp [hc])) d1 d2 e.2
    exact ⟨by rw [e.1, h], k⟩

def tx (l : List Sm) (t : Tm) : List UInt8 := (txtT l t).data.toList
def hdT (l : List Sm) (f : Int) : List UInt8 := if f < 0 then 88 :: (itoaB (-1 - f).toNat).data.toList else ((l[f.toNat]?).getD default).name.data.toList
def tlT (l : List Sm) (f : Int) (xs : List Tm) : List UInt8 := if f < 0 ∨ xs.length = 0 then [] else 40 :: (Lib.join (xs.map (tx l)) [44] ++ [41])
theorem tx_eq (l : List Sm) (f : Int) (xs : List Tm) : tx l (.node f xs) = hdT l f ++ tlT l f xs := by
  unfold tx hdT tlT
  simp only [txtT]
  by_cases hf : f < 0
  · simp [hf]
  · by_cases hz : xs.length = 0
    · have : xs = [] := List.eq_nil_of_length_eq_zero hz
      subst this
      simp [hf, txtL, appT]
    · simp only [hf, if_false, hz, or_self, appT]
      rw [txtL_map, if_neg (by simpa using hz)]
      simp only [ByteArray.data_append, Array.toList_append, List.append_assoc, joinB, List.map_map]
      rfl

/-- A signature whose names tell its symbols, and no variable's name among them. -/
structure Telling (l : List Sm) : Prop where
  nodel : ∀ s ∈ l, noDel s.name.data.toList
  apart : ∀ (i j : Nat) (x y : Sm), l[i]? = some x → l[j]? = some y → x.name = y.name → i = j
  nox : ∀ s ∈ l, ∀ c r, s.name.data.toList ≠ 88 :: c :: r
theorem itoa_nodel : ∀ k, k < 100 → (itoaB k).data.toList.all (fun c => !isDel c) = true := by decide +kernel
theorem itoa_ne : ∀ k, k < 100 → (itoaB k).data.toList ≠ [] := by decide +kernel

section
variable {l : List Sm} (hl : Telling l)
include hl
theorem hd_nodel {f : Int} {xs : List Tm} (h : Fine l (.node f xs)) : noDel (hdT l f) := by
  rcases fine_inv h with ⟨hf, h48, _⟩ | ⟨hf, s, hs, _, _⟩
  · unfold hdT
    rw [if_pos hf]
    intro c hc
    rcases List.mem_cons.1 hc with rfl | hc
    · decide
    · have := List.all_eq_true.1 (itoa_nodel (-1 - f).toNat (by omega)) c hc
      simpa using this
  · unfold hdT
    rw [if_neg hf, hs]
    exact hl.nodel s (List.mem_of_getElem? hs)
theorem hd_inj {f g : Int} {xs ys : List Tm} (h : Fine l (.node f xs)) (k : Fine l (.node g ys)) (e : hdT l f = hdT l g) : f = g ∧ xs.length = ys.length := by
  unfold hdT at e
  rcases fine_inv h with ⟨hf, h48, rfl⟩ | ⟨hf, s, hs, har, _⟩ <;> rcases fine_inv k with ⟨kf, k48, rfl⟩ | ⟨kf, s', hs', kar, _⟩
  · rw [if_pos hf, if_pos kf] at e
    have h1 : itoaB (-1 - f).toNat = itoaB (-1 - g).toNat := by
      injection e with _ e
      exact ByteArray.ext (Array.toList_inj.1 e)
    have := itoa_inj _ (by omega) _ (by omega) h1
    exact ⟨by omega, rfl⟩
  · rw [if_pos hf, if_neg kf, hs'] at e
    exfalso
    cases hi : (itoaB (-1 - f).toNat).data.toList with
    | nil => exact itoa_ne _ (by omega) hi
    | cons c r => rw [hi] at e; exact hl.nox s' (List.mem_of_getElem? hs') c r e.symm
  · rw [if_neg hf, if_pos kf, hs] at e
    exfalso
    cases hi : (itoaB (-1 - g).toNat).data.toList with
    | nil => exact itoa_ne _ (by omega) hi
    | cons c r => rw [hi] at e; exact hl.nox s (List.mem_of_getElem? hs) c r e
  · rw [if_neg hf, if_neg kf, hs, hs'] at e
    have h1 : s.name = s'.name := ByteArray.ext (Array.toList_inj.1 e)
    have h2 := hl.apart _ _ _ _ hs hs' h1
    have h3 : f = g := by omega
    subst h3
    rw [hs] at hs'
    cases hs'
    exact ⟨rfl, by omega⟩
theorem tx_inj (t : Tm) : ∀ u r s, Fine l t → Fine l u → delFirst r → delFirst s → tx l t ++ r = tx l u ++ s → t = u ∧ r = s := by
  refine Tm.ind (P := fun t => ∀ u r s, Fine l t → Fine l u → delFirst r → delFirst s → tx l t ++ r = tx l u ++ s → t = u ∧ r = s) (fun f xs ih u r s ht hu hr hs e => ?_) t
  obtain ⟨g, ys⟩ := u
  rw [tx_eq, tx_eq, List.append_assoc, List.append_assoc] at e
  have dl : ∀ (f : Int) (zs : List Tm) (q : List UInt8), delFirst q → delFirst (tlT l f zs ++ q) := by
    intro f zs q hq
    unfold tlT
    split
    · simpa using hq
    · exact .inr ⟨40, _, rfl, by decide⟩
  obtain ⟨e1, e2⟩ := head_split (hd_nodel hl ht) (hd_nodel hl hu) (dl f xs r hr) (dl g ys s hs) e
  obtain ⟨rfl, hlen⟩ := hd_inj hl ht hu e1
  unfold tlT at e2
  by_cases hz : f < 0 ∨ xs.length = 0
  · rw [if_pos hz, if_pos (by omega)] at e2
    have hx : xs = [] ∧ ys = [] := by
      rcases hz with hz | hz
      · rcases fine_inv ht with ⟨_, _, rfl⟩ | ⟨hf, _⟩
        · exact ⟨rfl, List.eq_nil_of_length_eq_zero (by simpa using hlen.symm)⟩
        · exact absurd hz hf
      · exact ⟨List.eq_nil_of_length_eq_zero hz, List.eq_nil_of_length_eq_zero (by omega)⟩
    rw [hx.1, hx.2]
    exact ⟨rfl, by simpa using e2⟩
  · rw [if_neg hz, if_neg (by omega)] at e2
    have hf : ¬ f < 0 := fun h => hz (.inl h)
    rcases fine_inv ht with ⟨h, _⟩ | ⟨_, _, _, _, hxs⟩
    · exact absurd h hf
    rcases fine_inv hu with ⟨h, _⟩ | ⟨_, _, _, _, hys⟩
    · exact absurd h hf
    simp only [List.cons_append, List.cons.injEq, true_and, List.append_assoc, List.nil_append] at e2
    have key : ∀ (xs ys : List Tm), (∀ t ∈ xs, ∀ u r s, Fine l t → Fine l u → delFirst r → delFirst s → tx l t ++ r = tx l u ++ s → t = u ∧ r = s) → (∀ t ∈ xs, Fine l t) → (∀ t ∈ ys, Fine l t) → xs.length = ys.length → 0 < xs.length →
        Lib.join (xs.map (tx l)) [44] ++ 41 :: r = Lib.join (ys.map (tx l)) [44] ++ 41 :: s → xs = ys ∧ r = s := by
      intro xs
      induction xs with
      | nil => intro ys _ _ _ _ h; simp at h
      | cons x xs ihx =>
        intro ys hi hx hy hlen _ e
        cases ys with
        | nil => simp at hlen
        | cons y ys =>
          cases xs with
          | nil =>
            have hy0 : ys = [] := List.eq_nil_of_length_eq_zero (by simpa using hlen.symm)
            subst hy0
            simp only [List.map_cons, List.map_nil, join_one] at e
            obtain ⟨h1, h2⟩ := hi x (by simp) y _ _ (hx x (by simp)) (hy y (by simp)) (.inr ⟨41, r, rfl, by decide⟩) (.inr ⟨41, s, rfl, by decide⟩) e
            injection h2 with _ h2
            exact ⟨by rw [h1], h2⟩
          | cons x' xs =>
            cases ys with
            | nil => simp at hlen
            | cons y' ys =>
              simp only [List.map_cons, join_cons, List.append_assoc] at e
              obtain ⟨h1, h2⟩ := hi x (by simp) y _ _ (hx x (by simp)) (hy y (by simp)) (.inr ⟨44, _, rfl, by decide⟩) (.inr ⟨44, _, rfl, by decide⟩) e
              have h2 : Lib.join (tx l x' :: List.map (tx l) xs) [44] ++ 41 :: r = Lib.join (tx l y' :: List.map (tx l) ys) [44] ++ 41 :: s := by injection h2
              obtain ⟨h3, h4⟩ := ihx (y' :: ys) (fun t ht => hi t (by simp [ht])) (fun t ht => hx t (by simp [ht])) (fun t ht => hy t (by simp [ht])) (by simpa using hlen) (by simp) h2
              exact ⟨by rw [h1, h3], h4⟩
    obtain ⟨h1, h2⟩ := key xs ys ih hxs hys hlen (by omega) e2
    exact ⟨by rw [h1], h2⟩
theorem txt_tells {t u : Tm} (ht : Fine l t) (hu : Fine l u) : txtT l t = txtT l u ↔ t = u := by
  refine ⟨fun h => ?_, fun h => by rw [h]⟩
  have e : tx l t ++ [] = tx l u ++ [] := by unfold tx; rw [h]
  exact (tx_inj hl t u [] [] ht hu (.inl rfl) (.inl rfl) e).1
end
theorem name_nodel {s : ByteArray} (h : namedB s = true) : noDel s.data.toList := by
  simp only [namedB, Bool.and_eq_true] at h
  intro c hc
  have h1 := List.all_eq_true.1 h.2 c hc
  simp only [nameC, decide_eq_true_eq] at h1
  have h2 := c.toNat_lt
  simp only [isDel, Bool.or_eq_false_iff, beq_eq_false_iff_ne, ne_eq]
  refine ⟨⟨fun e => ?_, fun e => ?_⟩, fun e => ?_⟩ <;> (subst e; revert h1; decide)
theorem telling {l : List Sm} (h : checkI l = 0) (hd : ∀ (i j : Nat) (x y : Sm), j < i → l[i]? = some x → l[j]? = some y → x.name ≠ y.name) (hx : ∀ s ∈ l, ∀ c r, s.name.data.toList ≠ 88 :: c :: r) : Telling l := by
  obtain ⟨_, h0, h1⟩ := chk_one h
  refine ⟨fun s hs => ?_, fun i j x y hi hj e => ?_, hx⟩
  · obtain ⟨i, hi⟩ := List.mem_iff_getElem?.1 hs
    cases i with
    | zero => rw [h0] at hi; cases hi; unfold noDel; decide
    | succ i => exact name_nodel (h1 (i + 1) s (by omega) hi).1
  · rcases Nat.lt_trichotomy i j with h2 | h2 | h2
    · exact absurd e.symm (hd j i y x h2 hj hi)
    · exact h2
    · exact absurd e (hd i j x y h2 hi hj)
end Go.Proofs.YtkgikjjngbifjaaDoor
