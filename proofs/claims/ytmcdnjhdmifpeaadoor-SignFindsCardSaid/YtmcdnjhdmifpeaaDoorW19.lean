/- A fresh symbol: its number, in plain words. -/
import Derived.Test.YtmcdnjhdmifpeaaDoorW18
namespace Go.Proofs.YtmcdnjhdmifpeaaDoor
open Go.RowKit

theorem nodup_len {α : Type} [DecidableEq α] : ∀ {xs ys : List α}, xs.Nodup → (∀ x ∈ xs, x ∈ ys) → xs.length ≤ ys.length
  | [], _, _, _ => Nat.zero_le _
  | x :: xs, ys, hn, h => by
    obtain ⟨h1, h2⟩ := List.nodup_cons.1 hn
    have hx : x ∈ ys := h x (by simp)
    have := nodup_len (xs := xs) (ys := ys.erase x) h2 (fun y hy => by
      have hne : y ≠ x := fun e => h1 (e ▸ hy)
      exact (List.mem_erase_of_ne hne).2 (h y (by simp [hy])))
    rw [List.length_erase_of_mem hx] at this
    have hpos : 0 < ys.length := List.length_pos_of_mem hx
    simp only [List.length_cons]
    omega

/-- The names that are told one behind the other. -/
def nameN (s : ByteArray) (n : Nat) : ByteArray := s ++ itoaB n
theorem nameN_inj {s : ByteArray} {n m : Nat} (hn : n < 100) (hm : m < 100) (h : nameN s n = nameN s m) : n = m := by
  refine itoa_inj n hn m hm ?_
  have h1 := congrArg (fun b : ByteArray => b.data.toList) h
  simp only [nameN, ByteArray.data_append, Array.toList_append] at h1
  exact ByteArray.ext (Array.toList_inj.1 (List.append_cancel_left h1))
theorem pigeon {l : List Sm} {s : ByteArray} (hl : l.length ≤ 96) {k : Nat} (hk : k ≤ 98) (h : ∀ j, 1 ≤ j → j < k → bearsB l (nameN s j) = true) : k ≤ 97 := by
  rcases Nat.lt_or_ge 97 k with h97 | h97
  · exfalso
    have hd : ((List.range 97).map fun j => nameN s (j + 1)).Nodup := by
      rw [List.nodup_iff_pairwise_ne, List.pairwise_map]
      refine List.Pairwise.imp_of_mem (fun {a b} ha hb hab e => ?_) (List.nodup_range (n := 97))
      have ha' := List.mem_range.1 ha
      have hb' := List.mem_range.1 hb
      have := nameN_inj (by omega) (by omega) e
      exact hab (by omega)
    have := nodup_len (ys := l.map (·.name)) hd (fun x hx => by
      obtain ⟨j, hj, rfl⟩ := List.mem_map.1 hx
      have hj' := List.mem_range.1 hj
      have hb := h (j + 1) (by omega) (by omega)
      unfold bearsB at hb
      obtain ⟨y, hy, he⟩ := List.any_eq_true.1 hb
      exact List.mem_map.2 ⟨y, hy, of_decide_eq_true he⟩)
    simp at this
    omega
  · exact h97
/-- The least number whose name is free. -/
def freshI (l : List Sm) (s : ByteArray) : Nat := ((List.range 98).find? (fun n => decide (1 ≤ n) && !bearsB l (nameN s n))).getD 0
theorem freshI_at {l : List Sm} {s : ByteArray} {k : Nat} (hk : 1 ≤ k) (hk' : k ≤ 97) (hf : bearsB l (nameN s k) = false) (h : ∀ j, 1 ≤ j → j < k → bearsB l (nameN s j) = true) : freshI l s = k := by
  have : (List.range 98).find? (fun n => decide (1 ≤ n) && !bearsB l (nameN s n)) = some k := by
    rw [List.find?_range_eq_some]
    refine ⟨by simp [hk, hf], List.mem_range.2 (by omega), fun j hj => ?_⟩
    by_cases h1 : 1 ≤ j
    · simp [h j h1 hj]
    · simp [h1]
  simp [freshI, this]
def freshE (l : List Sm) (s : ByteArray) (arity : Int) : Int :=
  if checkI l ≠ 0 then checkI l else if oneI s arity ≠ 0 then oneI s arity else if namedB (nameN s (freshI l s)) = false then 111 else 0
def zeroSm : Sm := ⟨⟨#[]⟩, 0, false⟩
def freshS (l : List Sm) (s : ByteArray) (arity : Int) (pred : Bool) : Sm := if freshE l s arity = 0 then ⟨nameN s (freshI l s), arity, pred⟩ else zeroSm
theorem freshE_check {l : List Sm} {s : ByteArray} {a : Int} (h : checkI l ≠ 0) : freshE l s a = checkI l := by simp [freshE, h]
theorem freshE_one {l : List Sm} {s : ByteArray} {a : Int} (h : checkI l = 0) (h1 : oneI s a ≠ 0) : freshE l s a = oneI s a := by simp [freshE, h, h1]
theorem freshE_long {l : List Sm} {s : ByteArray} {a : Int} {k : Nat} (h : checkI l = 0) (h1 : oneI s a = 0) (hk : freshI l s = k) (h2 : namedB (nameN s k) = false) : freshE l s a = 111 := by simp [freshE, h, h1, hk, h2]
theorem freshE_ok {l : List Sm} {s : ByteArray} {a : Int} {k : Nat} (h : checkI l = 0) (h1 : oneI s a = 0) (hk : freshI l s = k) (h2 : namedB (nameN s k) = true) : freshE l s a = 0 := by simp [freshE, h, h1, hk, h2]
theorem one_long {s t : ByteArray} {a : Int} (h : oneI s a = 0) : oneI t a = if namedB t = false then 111 else 0 := by
  unfold oneI at h ⊢
  split at h
  · cases h
  · split at h
    · cases h
    · rename_i h2
      simp [h2]
theorem one_named {s : ByteArray} {a : Int} (h : oneI s a = 0) : namedB s = true := by
  unfold oneI at h
  split at h
  · cases h
  · rename_i h1; simpa using h1
theorem named_size {s : ByteArray} (h : namedB s = true) : s.size ≤ 40 := by
  simp [namedB] at h
  exact h.1.2
theorem nameN_size {s : ByteArray} (h : s.size ≤ 40) {n : Nat} (hn : n < 100) : (nameN s n).size ≤ 42 := by
  have := itoa_size n hn
  rw [nameN, ByteArray.size_append]
  omega
theorem bears_before {l : List Sm} {s : ByteArray} {k : Nat} (h : ∀ j, 1 ≤ j → j < k → bearsB l (nameN s j) = true) (hk : bearsB l (nameN s k) = true) : ∀ j, 1 ≤ j → j < k + 1 → bearsB l (nameN s j) = true := by
  intro j h1 h2
  by_cases hj : j = k
  · subst hj; exact hk
  · exact h j h1 (by omega)
theorem check_len {l : List Sm} (h : checkI l = 0) : l.length ≤ 96 := by
  unfold checkI at h
  split at h
  · cases h
  · omega
/-- The answer of Fresh. -/
def FreshPost (l : List Sm) (s : ByteArray) (a : Int) (p : Bool) (w : World) (e : Ending) (w' : World) : Prop :=
  e = .returned (.tuple #[.agg #[.string (freshS l s a p).name, .int .i64 (freshS l s a p).arity, .bool (freshS l s a p).pred], .int .i64 (freshE l s a)]) ∧ Below w.heap.size w w'
theorem freshPost_err {l : List Sm} {s : ByteArray} {a : Int} {p : Bool} {w w' : World} {v : Int} (h : freshE l s a = v) (hv : v ≠ 0) (hb : Below w.heap.size w w') :
    FreshPost l s a p w (.returned (.tuple #[.agg #[.string ⟨#[]⟩, .int .i64 0, .bool false], .int .i64 v])) w' := by
  have : freshS l s a p = zeroSm := by unfold freshS; rw [if_neg (by rw [h]; exact hv)]
  exact ⟨by rw [this, h]; rfl, hb⟩
theorem freshPost_ok {l : List Sm} {s t : ByteArray} {a : Int} {p : Bool} {w w' : World} {k : Nat} (h : freshE l s a = 0) (hk : freshI l s = k) (ht : t = nameN s k) (hb : Below w.heap.size w w') :
    FreshPost l s a p w (.returned (.tuple #[.agg #[.string t, .int .i64 a, .bool p], .int .i64 0])) w' := by
  have : freshS l s a p = ⟨nameN s k, a, p⟩ := by unfold freshS; rw [if_pos h, hk]
  exact ⟨by rw [this, h, ht], hb⟩
end Go.Proofs.YtmcdnjhdmifpeaaDoor
