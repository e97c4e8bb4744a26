/- Texts of terms, in plain words; applied. -/
import Derived.Test.YtimgomoafeaoiaaDoorF2
import Derived.Test.YtimgomoafeaoiaaDoorW18
import Derived.Test.YtimgomoafeaoiaaDoorS1
import Derived.Laws.AppendOwn
import Derived.Maps.AppendAt
namespace Go.Proofs.YtimgomoafeaoiaaDoor
open Go.RowKit
set_option maxRecDepth 100000

def commaS : ByteArray := ⟨#[44]⟩
def joinB (xs : List ByteArray) : ByteArray := ⟨(Lib.join (xs.map (·.data.toList)) commaS.data.toList).toArray⟩
/-- A name and what stands in its brackets. -/
def appT (name : ByteArray) (xs : List ByteArray) : ByteArray := if xs.length = 0 then name else name ++ ⟨#[40]⟩ ++ joinB xs ++ ⟨#[41]⟩
mutual
def txtT (l : List Sm) : Tm → ByteArray
  | .node f xs => if f < 0 then ⟨#[88]⟩ ++ itoaB (-1 - f).toNat else appT ((l[f.toNat]?).getD default).name (txtL l xs)
def txtL (l : List Sm) : List Tm → List ByteArray
  | [] => []
  | t :: ts => txtT l t :: txtL l ts
end
theorem txtL_map (l : List Sm) : ∀ xs, txtL l xs = xs.map (txtT l)
  | [] => by simp [txtL]
  | x :: xs => by simp [txtL, txtL_map l xs]

theorem join_cons (x y : List UInt8) (ys : List (List UInt8)) (sep : List UInt8) : Lib.join (x :: y :: ys) sep = x ++ sep ++ Lib.join (y :: ys) sep := by
  simp [Lib.join, List.intercalate_cons_cons]
theorem join_one (x : List UInt8) (sep : List UInt8) : Lib.join [x] sep = x := by simp [Lib.join]
theorem join_nil (sep : List UInt8) : Lib.join [] sep = [] := by simp [Lib.join]
theorem join_len (sep : List UInt8) : ∀ xs : List (List UInt8), (Lib.join xs sep).length ≤ (xs.map fun x => x.length + sep.length).sum
  | [] => by simp [join_nil]
  | [x] => by simp [join_one]
  | x :: y :: ys => by
    have := join_len sep (y :: ys)
    rw [join_cons]
    simp only [List.length_append, List.map_cons, List.sum_cons] at this ⊢
    omega

set_option maxHeartbeats 400000 in
theorem applied_any (name : ByteArray) (xs : List ByteArray) (A : Option Addr) (c : Nat) (w : World) (hc : 0 < xs.length → ∃ b, A = some ⟨b, 0, none⟩ ∧ b < w.heap.size ∧ xs.length ≤ c ∧ ∀ (j : Nat) (x : ByteArray), xs[j]? = some x → w.cell? ⟨b, 0 + j, none⟩ = some (.string x))
    (hx : xs.length ≤ 1000) (hs : (joinB xs).size ≤ 100000) (hn : name.size ≤ 100000) :
    Calls Tryd.prog 39 #[.string name, .slice A xs.length c] w fun e w' => e = .returned (.string (appT name xs)) ∧ Below w.heap.size w w' := by
  rcases Nat.eq_zero_or_pos xs.length with h0 | h0
  · have h1 : appT name xs = name := if_pos h0
    rw [h1, h0]
    go_enter Tryd.func39, Tryd.ntmps39
    go_wp2
    go_ret
    exact ⟨rfl, Below.refl _ _⟩
  · obtain ⟨b, rfl, hb, hcap, hcell⟩ := hc h0
    have h1 : appT name xs = name ++ ⟨#[40]⟩ ++ joinB xs ++ ⟨#[41]⟩ := if_neg (by omega)
    have hne : ¬ ((xs.length : Int) = 0) := by omega
    have Hc := Lib.hid hcell
    have hj : (Lib.join (xs.map (·.data.toList)) commaS.data.toList).length = (joinB xs).size := by simp [joinB, ByteArray.size]
    clear hcell hc
    rw [h1]
    go_enter Tryd.func39, Tryd.ntmps39
    go_wp2_with (first
      | (go_at_call 44
         refine (Tryd.strings_Join b 0 c xs commaS w Hc.out hb (by omega) hcap (by rw [hj]; omega)).mono ?_
         rintro e w1 ⟨rfl, hb1⟩)
      | fail)
    go_ret
    exact ⟨rfl, hb1⟩

/-- A term that may be, somewhere over the signature. -/
def Fine (l : List Sm) (t : Tm) : Prop := ∃ d r, (fitT l t d r).1 = true
theorem fitL_mem {l : List Sm} : ∀ {xs : List Tm} {d r : Int}, (fitL l xs d r).1 = true → ∀ t ∈ xs, Fine l t
  | [], _, _, _, t, ht => by simp at ht
  | x :: xs, d, r, h, t, ht => by
    cases hb : (fitT l x d r).1 with
    | false => rw [fitL_no hb] at h; cases h
    | true =>
      rw [fitL_yes hb] at h
      rcases List.mem_cons.1 ht with rfl | ht
      · exact ⟨d, r, hb⟩
      · exact fitL_mem h t ht
theorem fine_inv {l : List Sm} {f : Int} {xs : List Tm} (h : Fine l (.node f xs)) : (f < 0 ∧ -1 - f < 48 ∧ xs = []) ∨ (¬ f < 0 ∧ ∃ s, l[f.toNat]? = some s ∧ s.arity = xs.length ∧ ∀ t ∈ xs, Fine l t) := by
  obtain ⟨d, r, h⟩ := h
  by_cases h1 : r - 1 < 0 ∨ 30 < d
  · rw [fit_room h1] at h; cases h
  · by_cases hf : f < 0
    · rw [fit_var h1 hf] at h
      have := of_decide_eq_true h
      exact .inl ⟨hf, this.1, List.eq_nil_of_length_eq_zero this.2⟩
    · cases hs : l[f.toNat]? with
      | none => rw [fit_out h1 hf (by have := List.getElem?_eq_none_iff.1 hs; omega)] at h; cases h
      | some s =>
        by_cases hb : s.arity ≠ xs.length ∨ (s.pred = true ∧ 1 < d)
        · rw [fit_bad h1 hf hs hb] at h; cases h
        · rw [fit_in h1 hf hs hb] at h
          exact .inr ⟨hf, s, rfl, Classical.not_not.1 (fun e => hb (.inl e)), fitL_mem h⟩
end Go.Proofs.YtimgomoafeaoiaaDoor
