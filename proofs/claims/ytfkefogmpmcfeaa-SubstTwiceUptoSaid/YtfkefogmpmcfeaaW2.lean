/- One symbol: is its name one, may it be; $true. -/
import Derived.Test.YtfkefogmpmcfeaaW1
namespace Go.Proofs.Ytfkefogmpmcfeaa
open Go.RowKit

/-- Is a text a name? -/
def namedB (s : ByteArray) : Bool := decide (1 ≤ s.size) && decide (s.size ≤ 40) && nameAll s.data.toList
/-- What may be wrong with a symbol that is not $true: 0, 111 or 112. -/
def oneI (name : ByteArray) (arity : Int) : Int := if namedB name = false then 111 else if arity < 0 ∨ 6 < arity then 112 else 0

set_option maxHeartbeats 1000000 in
theorem Named_any (s : ByteArray) (w : World) (hs : s.size ≤ maxLen) :
    Calls Try.prog 168 #[.string s] w fun e w' => e = .returned (.bool (namedB s)) ∧ w = w' := by
  unfold maxLen at hs
  by_cases h0 : s.size < 1
  · have hf := Lib.hid (show namedB s = false by simp [namedB]; omega)
    go_enter Try.func168, Try.ntmps168
    go_wp2_with fail
    go_ret
    exact ⟨ret_bool hf.out.symm, rfl⟩
  · by_cases h1 : 40 < s.size
    · have hf := Lib.hid (show namedB s = false by simp [namedB]; omega)
      go_enter Try.func168, Try.ntmps168
      go_wp2_with fail
      go_ret
      exact ⟨ret_bool hf.out.symm, rfl⟩
    · have hf := Lib.hid (show namedB s = nameAll s.data.toList by
        have e1 : 1 ≤ s.size := by omega
        have e2 : s.size ≤ 40 := by omega
        simp [namedB, e1, e2])
      go_enter Try.func168, Try.ntmps168
      go_wp2_with fail
      go_loop [3] (fun i => ∃ k : Nat, k ≤ s.size ∧ i = .int .i64 k ∧ Hid (nameAll (s.data.toList.take k) = true)) (fun i => s.size - (intOf i).toNat)
      case atStart => exact ⟨0, Nat.zero_le _, rfl, by simp [Hid, nameAll]⟩
      case round =>
        obtain ⟨k, hk, rfl, HA⟩ := hrel
        by_cases hlt : k < s.size
        · have hts := take_snoc s k hlt
          have hsn := nameAll_snoc (s.data.toList.take k) s[k]
          rw [← hts, HA.out, Bool.true_and] at hsn
          have HS := Lib.hid hsn
          clear hsn hts
          have hc : (s[k].toNat : Int) < 48 ∨ (48 ≤ (s[k].toNat : Int) ∧ (s[k].toNat : Int) ≤ 57) ∨ (58 ≤ (s[k].toNat : Int) ∧ (s[k].toNat : Int) ≤ 64) ∨ (65 ≤ (s[k].toNat : Int) ∧ (s[k].toNat : Int) ≤ 90) ∨
              (91 ≤ (s[k].toNat : Int) ∧ (s[k].toNat : Int) ≤ 94) ∨ (95 ≤ (s[k].toNat : Int) ∧ (s[k].toNat : Int) ≤ 95) ∨ (96 ≤ (s[k].toNat : Int) ∧ (s[k].toNat : Int) ≤ 96) ∨ (97 ≤ (s[k].toNat : Int) ∧ (s[k].toNat : Int) ≤ 122) ∨ 123 ≤ (s[k].toNat : Int) := by omega
          rcases hc with hc | ⟨hc, hc'⟩ | ⟨hc, hc'⟩ | ⟨hc, hc'⟩ | ⟨hc, hc'⟩ | ⟨hc, hc'⟩ | ⟨hc, hc'⟩ | ⟨hc, hc'⟩ | hc
          all_goals
            first | have hn : Hid (nameAll (s.data.toList.take (k + 1)) = true) := HS.out.trans (nameC_true (by omega)) | have hn : Hid (nameAll (s.data.toList.take (k + 1)) = false) := HS.out.trans (nameC_false (by omega))
            clear HS
            first | have e57 : decide ((s[k].toNat : Int) ≤ 57) = true := decide_eq_true (by omega) | have e57 : decide ((s[k].toNat : Int) ≤ 57) = false := decide_eq_false (by omega)
            first | have e90 : decide ((s[k].toNat : Int) ≤ 90) = true := decide_eq_true (by clear e57; omega) | have e90 : decide ((s[k].toNat : Int) ≤ 90) = false := decide_eq_false (by clear e57; omega)
            first | have e122 : decide ((s[k].toNat : Int) ≤ 122) = true := decide_eq_true (by clear e57 e90; omega) | have e122 : decide ((s[k].toNat : Int) ≤ 122) = false := decide_eq_false (by clear e57 e90; omega)
            first | have e95 : ((s[k].toNat : Int) == 95) = true := beq_iff_eq.2 (by clear e57 e90 e122; omega) | have e95 : ((s[k].toNat : Int) == 95) = false := beq_eq_false_iff_ne.2 (by clear e57 e90 e122; omega)
            go_wp2
            first
            | (go_round
               case rel => exact ⟨k + 1, by omega, by go_num, hn⟩
               case measure => simp [intOf]; omega)
            | (go_ret
               exact ⟨ret_bool (hf.out.trans (nameAll_cut hn.out)).symm, rfl⟩)
        · have : k = s.size := by omega
          subst this
          go_wp2
          go_ret
          exact ⟨ret_bool (by have := HA.out; rw [List.take_of_length_le (by simp)] at this; exact (hf.out.trans this).symm), rfl⟩
end Go.Proofs.Ytfkefogmpmcfeaa
