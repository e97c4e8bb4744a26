/- Small numbers as texts; is a name taken? -/
import Derived.Test.YtimgomoafeaoiaaDoorW11
import Derived.Lib.Strings
namespace Go.Proofs.YtimgomoafeaoiaaDoor
open Go.RowKit
set_option maxRecDepth 20000

def digitsB : ByteArray := ⟨#[48, 49, 50, 51, 52, 53, 54, 55, 56, 57, 97, 98, 99, 100, 101, 102, 103, 104, 105, 106, 107, 108, 109, 110, 111, 112, 113, 114, 115, 116, 117, 118, 119, 120, 121, 122]⟩
def smallsB : ByteArray := ⟨((List.range 100).flatMap fun n => [UInt8.ofNat (48 + n / 10), UInt8.ofNat (48 + n % 10)]).toArray⟩
/-- The text of a number below 100. -/
def itoaB (n : Nat) : ByteArray := if n < 10 then digitsB.extract n (n + 1) else smallsB.extract (n * 2) (n * 2 + 2)

set_option maxRecDepth 100000 in
set_option maxHeartbeats 400000 in
theorem small_any (n : Nat) (hn : n < 100) (w : World) :
    Calls Tryd.prog 53 #[.int .i64 (n : Int)] w fun e w' => e = .returned (.string (itoaB n)) ∧ w = w' := by
  by_cases h : n < 10
  · go_enter Tryd.func53, Tryd.ntmps53
    go_wp2
    go_ret
    refine ⟨?_, rfl⟩
    rw [itoaB, if_pos h]
    rfl
  · go_enter Tryd.func53, Tryd.ntmps53
    go_wp2
    go_ret
    refine ⟨?_, rfl⟩
    rw [itoaB, if_neg h]
    exact congrArg (fun s : ByteArray => Ending.returned (Value.string (s.extract (n * 2) (n * 2 + 2)))) (by decide +kernel)

set_option maxRecDepth 100000 in
set_option maxHeartbeats 400000 in
theorem FormatInt_any (n : Nat) (hn : n < 100) (w : World) :
    Calls Tryd.prog 48 #[.int .i64 (n : Int), .int .i64 10] w fun e w' => e = .returned (.string (itoaB n)) ∧ w = w' := by
  go_enter Tryd.func48, Tryd.ntmps48
  go_wp2_with (first | (go_at_call 53; refine (small_any n hn _).mono ?_; rintro e w' ⟨rfl, rfl⟩) | fail)
  go_ret
  exact ⟨rfl, rfl⟩
theorem IItoa_any (n : Nat) (hn : n < 100) (w : World) :
    Calls Tryd.prog 43 #[.int .i64 (n : Int)] w fun e w' => e = .returned (.string (itoaB n)) ∧ w = w' := by
  go_enter Tryd.func43, Tryd.ntmps43
  go_wp2_with (first | (go_at_call 48; refine (FormatInt_any n hn _).mono ?_; rintro e w' ⟨rfl, rfl⟩) | fail)
  go_ret
  exact ⟨rfl, rfl⟩
theorem Itoa_any (n : Nat) (hn : n < 100) (w : World) :
    Calls Tryd.prog 37 #[.int .i64 (n : Int)] w fun e w' => e = .returned (.string (itoaB n)) ∧ w = w' := by
  go_enter Tryd.func37, Tryd.ntmps37
  go_wp2_with (first | (go_at_call 43; refine (IItoa_any n hn _).mono ?_; rintro e w' ⟨rfl, rfl⟩) | fail)
  go_ret
  exact ⟨rfl, rfl⟩

theorem itoa_size : ∀ n, n < 100 → (itoaB n).size ≤ 2 := by decide +kernel
theorem itoa_inj : ∀ n, n < 100 → ∀ m, m < 100 → itoaB n = itoaB m → n = m := by decide +kernel

/-- Has a symbol that name? -/
def bearsB (l : List Sm) (s : ByteArray) : Bool := l.any fun x => decide (x.name = s)
theorem bears_hit {l : List Sm} {k : Nat} {x : Sm} {s : ByteArray} (hx : l[k]? = some x) (h : x.name = s) : bearsB l s = true := by
  unfold bearsB
  rw [List.any_eq_true]
  exact ⟨x, List.mem_of_getElem? hx, by simpa using h⟩
theorem bears_miss {l : List Sm} {s : ByteArray} (h : ∀ j x, j < l.length → l[j]? = some x → x.name ≠ s) : bearsB l s = false := by
  unfold bearsB
  rw [List.any_eq_false]
  intro x hx
  obtain ⟨j, hj, rfl⟩ := List.getElem_of_mem hx
  simpa using h j _ hj (List.getElem?_eq_getElem hj)
theorem name_before {l : List Sm} {k : Nat} {y : Sm} {s : ByteArray} (h : ∀ j x, j < k → l[j]? = some x → x.name ≠ s) (hy : l[k]? = some y) (hne : y.name ≠ s) : ∀ j x, j < k + 1 → l[j]? = some x → x.name ≠ s := by
  intro j x hlt hx
  by_cases e : j = k
  · subst e; rw [hy] at hx; injection hx with hx; subst hx; exact hne
  · exact h j x (by omega) hx

theorem bytes_ne {a b : ByteArray} (h : a ≠ b) : (a.toList == b.toList) = false := by
  rw [beq_eq_false_iff_ne]
  intro e
  rw [ByteArray.toList_eq, ByteArray.toList_eq] at e
  exact h (ByteArray.ext (Array.toList_inj.1 e))