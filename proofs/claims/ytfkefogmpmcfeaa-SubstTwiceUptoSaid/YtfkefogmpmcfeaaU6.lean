/- Binds in memory; how two stand; which is itself. -/
import Derived.Test.YtfkefogmpmcfeaaU4
import Derived.Test.YtfkefogmpmcfeaaE1
import Derived.Test.YtfkefogmpmcfeaaT1
import Derived.Test.YtfkefogmpmcfeaaF1
namespace Go.Proofs.Ytfkefogmpmcfeaa
open Go.RowKit Go.Shelf
set_option maxRecDepth 100000

/-- What stands for a variable, in plain words. -/
structure Bd where
  v : Int
  t : Tm
/-- The slice at A holds the binds; they, and their terms, lie in N's blocks. -/
structure Binds (w : World) (N : Nat → Prop) (A : Option Addr) (l : List Bd) : Prop where
  len : l.length ≤ 9223372036854775807
  ad : 0 < l.length → ∃ b off, A = some ⟨b, off, none⟩ ∧ N b ∧ ∀ (i : Nat) (x : Bd), l[i]? = some x → ∃ A' c', w.cell? ⟨b, off + i * 3, none⟩ = some (.int .i64 x.v) ∧ w.cell? ⟨b, off + i * 3 + 1, none⟩ = some (.int .i64 x.t.fn) ∧ w.cell? ⟨b, off + i * 3 + 2, none⟩ = some (.slice A' x.t.args.length c') ∧ I64 x.v ∧ I64 x.t.fn ∧ ArgsN w N A' x.t.args
section
variable {w w' : World} {N M : Nat → Prop} {A : Option Addr} {l : List Bd}
theorem Binds.keep (h : Binds w N A l) (hk : ∀ g, N g → w'.heap[g]? = w.heap[g]?) : Binds w' N A l :=
  ⟨h.len, fun hn => by
    obtain ⟨b, off, hA, hb, hc⟩ := h.ad hn
    refine ⟨b, off, hA, hb, fun i x hx => ?_⟩
    obtain ⟨A', c', h0, h1, h2, h3, h4, h5⟩ := hc i x hx
    exact ⟨A', c', (cell_of_heap (hk b hb)).trans h0, (cell_of_heap (hk b hb)).trans h1, (cell_of_heap (hk b hb)).trans h2, h3, h4, h5.keep hk⟩⟩
theorem Binds.wide (h : Binds w N A l) (hk : ∀ g, N g → M g) : Binds w M A l :=
  ⟨h.len, fun hn => by
    obtain ⟨b, off, hA, hb, hc⟩ := h.ad hn
    refine ⟨b, off, hA, hk b hb, fun i x hx => ?_⟩
    obtain ⟨A', c', h0, h1, h2, h3, h4, h5⟩ := hc i x hx
    exact ⟨A', c', h0, h1, h2, h3, h4, h5.wide hk⟩⟩
theorem Binds.nil_ (w : World) (N : Nat → Prop) (A : Option Addr) : Binds w N A [] := ⟨by simp, fun h => by simp at h⟩
/-- One of them. -/
structure BdAt (w : World) (N : Nat → Prop) (b off i : Nat) (x : Bd) (A' : Option Addr) (c' : Nat) : Prop where
  hb : N b
  c0 : w.cell? ⟨b, off + i * 3, none⟩ = some (.int .i64 x.v)
  c1 : w.cell? ⟨b, off + i * 3 + 1, none⟩ = some (.int .i64 x.t.fn)
  c2 : w.cell? ⟨b, off + i * 3 + 2, none⟩ = some (.slice A' x.t.args.length c')
  iv : I64 x.v
  it : I64 x.t.fn
  sub : ArgsN w N A' x.t.args
theorem Binds.get (h : Binds w N A l) {i : Nat} {x : Bd} (hx : l[i]? = some x) : ∃ b off A' c', A = some ⟨b, off, none⟩ ∧ BdAt w N b off i x A' c' := by
  have hlt := (List.getElem?_eq_some_iff.1 hx).1
  obtain ⟨b, off, hA, hb, hc⟩ := h.ad (by omega)
  obtain ⟨A', c', h0, h1, h2, h3, h4, h5⟩ := hc i x hx
  exact ⟨b, off, A', c', hA, hb, h0, h1, h2, h3, h4, h5⟩
end

theorem cells_three {W : World} {b : Nat} {x y z : Value} {t : TypeId} (h : W.heap[b]? = some (.cells #[x, y, z] t)) : W.cell? ⟨b, 0, none⟩ = some x ∧ W.cell? ⟨b, 1, none⟩ = some y ∧ W.cell? ⟨b, 2, none⟩ = some z ∧ W.frozen? ⟨b, 0, none⟩ = false ∧ W.frozen? ⟨b, 1, none⟩ = false ∧ W.frozen? ⟨b, 2, none⟩ = false := by
  refine ⟨?_, ?_, ?_, ?_, ?_, ?_⟩ <;> simp [World.cell?, World.frozen?, h]

theorem byVariable_any (x y : Bd) (A A2 : Option Addr) (c c2 : Nat) (w : World) :
    Calls Try.prog 68 #[.agg #[.int .i64 x.v, .int .i64 x.t.fn, .slice A x.t.args.length c], .agg #[.int .i64 y.v, .int .i64 y.t.fn, .slice A2 y.t.args.length c2]] w fun e w' => e = .returned (.int .i64 (numI x.v y.v)) ∧ Below w.heap.size w w' := by
  have hWB : Below w.heap.size w ((w.alloc (.cells #[.int .i64 x.v, .int .i64 x.t.fn, .slice A x.t.args.length c] 81)).alloc (.cells #[.int .i64 y.v, .int .i64 y.t.fn, .slice A2 y.t.args.length c2] 81)) := ((Below.refl _ _).alloc (Nat.le_refl _) _).alloc (by simp) _
  go_enter Try.func68, Try.ntmps68
  go_wp2_with (first
    | (go_at_call 101; refine (cmpNum_any x.v y.v _).mono ?_; go_must (rintro e w1 ⟨rfl, hb1⟩; have hB1 := bl_step hWB hb1))
    | fail)
  go_ret
  exact ⟨rfl, hB1⟩

/-- Does a bind bind a variable to itself? -/
def selfB (x : Bd) : Prop := x.t.fn = -1 - x.v ∧ x.t.args.length = 0
instance (x : Bd) : Decidable (selfB x) := inferInstanceAs (Decidable (_ ∧ _))
theorem itself_any (x : Bd) (A : Option Addr) (c : Nat) (w : World) (hv : I64 x.v) :
    Calls Try.prog 56 #[.agg #[.int .i64 x.v, .int .i64 x.t.fn, .slice A x.t.args.length c]] w fun e w' => e = .returned (.bool (decide (selfB x))) ∧ Below w.heap.size w w' := by
  have hWB : Below w.heap.size w (w.alloc (.cells #[.int .i64 x.v, .int .i64 x.t.fn, .slice A x.t.args.length c] 81)) := (Below.refl _ _).alloc (Nat.le_refl _) _
  have hlo := hv.1
  have hhi := hv.2
  by_cases h1 : x.t.fn = -1 - x.v
  · go_enter Try.func56, Try.ntmps56
    go_wp2
    go_ret
    exact ⟨ret_bool (by rw [Bool.eq_iff_iff, beq_iff_eq, decide_eq_true_iff]; unfold selfB; exact ⟨fun h => ⟨h1, by omega⟩, fun h => by have := h.2; omega⟩), by rwa [h1] at hWB⟩
  · go_enter Try.func56, Try.ntmps56
    go_wp2
    go_ret
    exact ⟨ret_bool (by unfold selfB; simp [h1]), hWB⟩

/-- No bind of a variable to itself: IndexFunc tells -1. -/
theorem indexSelf_none (l : List Bd) (A : Option Addr) (c : Nat) (w : World) (hA : Binds w (· < w.heap.size) A l) (hn : ∀ x ∈ l, ¬ selfB x) :
    Calls Try.prog 111 #[.slice A l.length c, .func (.func 56) #[] #[]] w fun e w' => e = .returned (.int .i64 (-1)) ∧ Below w.heap.size w w' := by
  have hlen := hA.len
  have HA := Lib.hid hA
  have Hn := Lib.hid hn
  clear hA hn
  go_enter Try.func111, Try.ntmps111
  go_wp2
  go_loopw [8] (fun i wr => ∃ k : Nat, k ≤ l.length ∧ i = .int .i64 (k : Int) ∧ Below w.heap.size w wr) (fun i _ => l.length - (intOf i).toNat)
  case atStart => exact ⟨0, Nat.zero_le _, rfl, Below.refl _ _⟩
  case round =>
    obtain ⟨k, hk, rfl, hBr⟩ := hrel
    by_cases hlt : k < l.length
    · obtain ⟨x, hx⟩ : ∃ x, l[k]? = some x := ⟨_, List.getElem?_eq_getElem hlt⟩
      obtain ⟨b, off, A', c', rfl, h⟩ := HA.out.get hx
      have e0 := cell_on hBr h.hb h.c0
      have e1 := cell_on hBr h.hb h.c1
      have e2 := cell_on hBr h.hb h.c2
      have hiv := h.iv
      have hns := Lib.hid (decide_eq_false (Hn.out x (List.mem_of_getElem? hx)))
      clear hx h
      go_wp2_with (first
        | (go_at_call 56; refine (itself_any x A' c' wr hiv).mono ?_; go_must (rintro e w1 ⟨rfl, hb1⟩; rw [hns.out]; have hB1 := hBr.trans (hb1.mono hBr.size)))
        | fail)
      go_roundw
      case rel => exact ⟨k + 1, by omega, by go_num, hB1⟩
      case measure => simp [intOf]; omega
    · obtain rfl : k = l.length := by omega
      go_wp2
      go_ret
      exact ⟨rfl, hBr⟩

theorem deleteSelf_none (l : List Bd) (A : Option Addr) (c : Nat) (w : World) (hA : Binds w (· < w.heap.size) A l) (hn : ∀ x ∈ l, ¬ selfB x) :
    Calls Try.prog 69 #[.slice A l.length c, .func (.func 56) #[] #[]] w fun e w' => e = .returned (.slice A l.length c) ∧ Below w.heap.size w w' := by
  have H := Lib.hid (indexSelf_none l A c w hA hn)
  clear hA hn
  go_enter Try.func69, Try.ntmps69
  go_wp2_with (first
    | (go_at_call 111; refine H.out.mono ?_; go_must (rintro e w1 ⟨rfl, hb1⟩))
    | fail)
  go_ret
  exact ⟨rfl, hb1⟩
end Go.Proofs.Ytfkefogmpmcfeaa
