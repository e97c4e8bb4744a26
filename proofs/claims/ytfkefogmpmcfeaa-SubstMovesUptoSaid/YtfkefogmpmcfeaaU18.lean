/- slices.SortFunc at no bind; slices.DeleteFunc at a row of binds. -/
import Derived.Test.YtfkefogmpmcfeaaU17
namespace Go.Proofs.Ytfkefogmpmcfeaa
open Go.RowKit Go.Shelf
set_option maxRecDepth 100000

theorem insert_none (w : World) : Calls Try.prog 134 #[.slice none 0 0, .int .i64 0, .int .i64 0, .func (.func 68) #[] #[]] w fun e w' => e = .returned (.tuple #[]) ∧ w = w' := by
  go_enter Try.func134, Try.ntmps134
  go_wp2
  go_loop [8] (fun i => i = .int .i64 1) (fun _ => 0)
  case atStart => rfl
  case round =>
    subst hrel
    go_wp2
    go_end0
    exact ⟨rfl, rfl⟩
theorem pdq_none (w : World) : Calls Try.prog 109 #[.slice none 0 0, .int .i64 0, .int .i64 0, .int .i64 0, .func (.func 68) #[] #[]] w fun e w' => e = .returned (.tuple #[]) ∧ w = w' := by
  go_enter Try.func109, Try.ntmps109
  go_wp2
  go_loop [1, 2, 3] (fun a b c => a = .int .i64 0 ∧ b = .int .i64 0 ∧ c = .int .i64 0) (fun _ _ _ => 0)
  case atStart => exact ⟨rfl, rfl, rfl⟩
  case round =>
    obtain ⟨rfl, rfl, rfl⟩ := hrel
    go_wp2_with (first
      | (go_at_call 134; refine (insert_none w).mono ?_; go_must (rintro e w1 ⟨rfl, rfl⟩))
      | fail)
    exact bodyPost_ret (v := .tuple #[]) (by simp [results, Try.results109, go_sem]) rfl ⟨rfl, rfl⟩

theorem sort_any (l : List Bi) (v : Value) (base : Nat) (N : Nat → Prop) (w : World) (h : RowB w base v l N) (hl2 : l.length ≤ 4194304) (hN : ∀ k, N k → v.ownBlock ≠ some k ∧ k < w.heap.size) :
    Calls Try.prog 67 #[v, .func (.func 68) #[] #[]] w (SortPost l v base N w) := by
  rcases Nat.eq_zero_or_pos l.length with h0 | h0
  · rcases h.row.2 with ⟨rfl, _⟩ | hs
    · obtain rfl : l = [] := List.eq_nil_of_length_eq_zero h0
      have HR := Lib.hid h
      have hb := bitsLen_any 0 w (by omega)
      have HB := Lib.hid (show Calls Try.prog 110 #[.int .u64 0] w fun e w' => e = .returned (.int .i64 0) ∧ w' = w from hb)
      clear h hb hN
      go_enter Try.func67, Try.ntmps67
      go_wp2_with (first
        | (go_at_call 110; (with_reducible refine HB.out.mono ?_); go_must (rintro e w1 ⟨rfl, hw1⟩; obtain rfl := hw1.symm))
        | (go_at_call 109; refine (pdq_none w).mono ?_; go_must (rintro e w2 ⟨rfl, rfl⟩))
        | fail)
      go_end0
      exact ⟨rfl, [], .refl _, .nil, HR.out, World.grownBy.refl w _⟩
    · exact sort_some l v base N w h hs hl2 hN
  · rcases h.row.2 with ⟨_, e⟩ | hs
    · omega
    · exact sort_some l v base N w h hs hl2 hN
end Go.Proofs.Ytfkefogmpmcfeaa
