/- One symbol: is its name one, may it be; $true. -/
import Derived.Test.YtimgomoafeaoiaaDoorW1
namespace Go.Proofs.YtimgomoafeaoiaaDoor
open Go.RowKit

/-- Is a text a name? -/
def namedB (s : ByteArray) : Bool := decide (1 ≤ s.size) && decide (s.size ≤ 40) && nameAll s.data.toList
/-- What may be wrong with a symbol that is not $true: 0, 111 or 112. -/
def oneI (name : ByteArray) (arity : Int) : Int := if namedB name = false then 111 else if arity < 0 ∨ 6 < arity then 112 else 0

set_option maxHeartbeats 400000 in
theorem fits_any (s : ByteArray) (a : Int) (w : World) (hs : s.size ≤ maxLen) :
    Calls Tryd.prog 41 #[.string s, .int .i64 a] w fun e w' => e = .returned (.int .i64 (oneI s a)) ∧ w = w' := by
  by_cases h0 : s.size = 0
  · have hf := Lib.hid (show oneI s a = 111 by simp [oneI, namedB, h0])
    have h0' : (((s.size : Nat) : Int) == 0) = true := by simp [h0]
    clear h0
    go_enter Tryd.func41, Tryd.ntmps41
    go_wp2_with fail
    go_ret
    exact ⟨ret_int hf.out.symm, rfl⟩
  · have h0' : (((s.size : Nat) : Int) == 0) = false := by simpa using h0
    by_cases h1 : 40 < s.size
    · have hf := Lib.hid (show oneI s a = 111 by simp [oneI, namedB, Nat.not_le.2 h1])
      clear h0
      go_enter Tryd.func41, Tryd.ntmps41
      go_wp2_with fail
      go_ret
      exact ⟨ret_int hf.out.symm, rfl⟩
    · cases h2 : nameAll s.data.toList with
      | false =>
        have hf := Lib.hid (show oneI s a = 111 by simp [oneI, namedB, h2])
        clear h0
        go_enter Tryd.func41, Tryd.ntmps41
        go_wp2_with (first | (go_at_call 46; refine (all_any _ _ hs).mono ?_; rintro e w' ⟨rfl, rfl⟩) | fail)
        go_ret
        exact ⟨ret_int hf.out.symm, rfl⟩
      | true =>
        have hf := Lib.hid (show oneI s a = if a < 0 ∨ 6 < a then 112 else 0 by
          have e : namedB s = true := by simp [namedB, h2]; omega
          simp [oneI, e])
        clear h0
        go_enter Tryd.func41, Tryd.ntmps41
        go_wp2_with (first | (go_at_call 46; refine (all_any _ _ hs).mono ?_; rintro e w' ⟨rfl, rfl⟩) | fail)
        all_goals
          go_ret
          refine ⟨ret_int ?_, rfl⟩
          rw [hf.out]
          first | rw [if_pos (by omega)] | rw [if_neg (by omega)]