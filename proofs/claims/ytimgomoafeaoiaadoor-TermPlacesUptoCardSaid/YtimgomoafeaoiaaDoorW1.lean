/- The functions on names and on one symbol, and a symbol's place: what each call answers. -/
import Derived.Test.YtimgomoafeaoiaaDoorL0
namespace Go.Proofs.YtimgomoafeaoiaaDoor
open Go.RowKit

def nameC (c : Int) : Bool := decide ((97 ≤ c ∧ c ≤ 122) ∨ (65 ≤ c ∧ c ≤ 90) ∨ (48 ≤ c ∧ c ≤ 57) ∨ c = 95)
theorem nameC_true {c : Int} (h : (97 ≤ c ∧ c ≤ 122) ∨ (65 ≤ c ∧ c ≤ 90) ∨ (48 ≤ c ∧ c ≤ 57) ∨ c = 95) : nameC c = true := by simpa [nameC] using h
theorem nameC_false {c : Int} (h : ¬ ((97 ≤ c ∧ c ≤ 122) ∨ (65 ≤ c ∧ c ≤ 90) ∨ (48 ≤ c ∧ c ≤ 57) ∨ c = 95)) : nameC c = false := by simpa [nameC] using h

set_option maxHeartbeats 400000 in
theorem nameByte_any (c : Int) (w : World) :
    Calls Tryd.prog 47 #[.int .u8 c] w fun e w' => e = .returned (.bool (nameC c)) ∧ w = w' := by
  go_enter Tryd.func47, Tryd.ntmps47
  go_wp2
  all_goals
    go_ret
    refine ⟨ret_bool ?_, rfl⟩
    rw [eq_comm, Bool.eq_iff_iff]
    simp only [nameC, decide_eq_true_eq, Bool.or_eq_true, beq_iff_eq]
    first | omega | (simp only [iff_true]; omega)

/-- Are all bytes of a text a name's? -/
def nameAll (l : List UInt8) : Bool := l.all fun c => nameC c.toNat
theorem take_snoc (s : ByteArray) (k : Nat) (h : k < s.size) : s.data.toList.take (k + 1) = s.data.toList.take k ++ [s[k]] := by
  rw [List.take_succ_eq_append_getElem (by simpa using h)]; rfl
theorem nameAll_snoc (l : List UInt8) (c : UInt8) : nameAll (l ++ [c]) = (nameAll l && nameC c.toNat) := by simp [nameAll]
theorem nameAll_cut {l : List UInt8} {k : Nat} (h : nameAll (l.take k) = false) : nameAll l = false := by
  cases hl : nameAll l with
  | false => rfl
  | true =>
    unfold nameAll at hl h
    rw [List.all_eq_true] at hl
    rw [List.all_eq_false] at h
    obtain ⟨x, hx, hf⟩ := h
    exact absurd (hl x (List.mem_of_mem_take hx)) hf

set_option maxHeartbeats 400000 in
theorem all_any (s : ByteArray) (w : World) (hs : s.size ≤ maxLen) :
    Calls Tryd.prog 46 #[.string s, .func (.func 47) #[] #[]] w fun e w' => e = .returned (.bool (nameAll s.data.toList)) ∧ w = w' := by
  unfold maxLen at hs
  go_enter Tryd.func46, Tryd.ntmps46
  go_wp2
  go_loop [8] (fun i => ∃ k : Nat, k ≤ s.size ∧ i = .int .i64 k ∧ Hid (nameAll (s.data.toList.take k) = true)) (fun i => s.size - (intOf i).toNat)
  case atStart => exact ⟨0, Nat.zero_le _, rfl, by simp [Hid, nameAll]⟩
  case round =>
    obtain ⟨k, hk, rfl, HA⟩ := hrel
    by_cases hlt : k < s.size
    · have hts := take_snoc s k hlt
      have hsn := nameAll_snoc (s.data.toList.take k) s[k]
      rw [← hts, HA.out, Bool.true_and] at hsn
      have HS := Lib.hid hsn
      clear hsn hts
      cases hc : nameC (s[k].toNat : Int) with
      | true =>
        go_wp2_with (first | (go_at_call 47; refine (nameByte_any _ _).mono ?_; rintro e w' ⟨rfl, rfl⟩) | fail)
        go_round
        case rel => exact ⟨k + 1, by omega, by go_num, by rw [Hid, HS.out]; exact hc⟩
        case measure => simp [intOf]; omega
      | false =>
        go_wp2_with (first | (go_at_call 47; refine (nameByte_any _ _).mono ?_; rintro e w' ⟨rfl, rfl⟩) | fail)
        go_ret
        exact ⟨ret_bool (nameAll_cut (HS.out.trans hc)).symm, rfl⟩
    · have : k = s.size := by omega
      subst this
      go_wp2
      go_ret
      exact ⟨ret_bool (by have := HA.out; rw [List.take_of_length_le (by simp)] at this; exact this.symm), rfl⟩

end Go.Proofs.YtimgomoafeaoiaaDoor
