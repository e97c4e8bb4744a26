/- Small numbers as texts; is a name taken? -/
import Derived.Test.YtmcdnjhdmifpeaaDoorW14
import Derived.Lib.Strings
namespace Go.Proofs.YtmcdnjhdmifpeaaDoor
open Go.RowKit

def digitsB : ByteArray := ⟨#[48, 49, 50, 51, 52, 53, 54, 55, 56, 57, 97, 98, 99, 100, 101, 102, 103, 104, 105, 106, 107, 108, 109, 110, 111, 112, 113, 114, 115, 116, 117, 118, 119, 120, 121, 122]⟩
def smallsB : ByteArray := ⟨((List.range 100).flatMap fun n => [UInt8.ofNat (48 + n / 10), UInt8.ofNat (48 + n % 10)]).toArray⟩
/-- The text of a number below 100. -/
def itoaB (n : Nat) : ByteArray := if n < 10 then digitsB.extract n (n + 1) else smallsB.extract (n * 2) (n * 2 + 2)

set_option maxRecDepth 100000 in
set_option maxHeartbeats 400000 in
theorem small_any (n : Nat) (hn : n < 100) (w : World) :
    Calls Tryd.prog 43 #[.int .i64 (n : Int)] w fun e w' => e = .returned (.string (itoaB n)) ∧ w = w' := by
  by_cases h : n < 10
  · go_enter Tryd.func43, Tryd.ntmps43
    go_wp2
    go_ret
    refine ⟨?_, rfl⟩
    rw [itoaB, if_pos h]
    rfl
  · go_enter Tryd.func43, Tryd.ntmps43
    go_wp2
    go_ret
    refine ⟨?_, rfl⟩
    rw [itoaB, if_neg h]
    exact congrArg (fun s : ByteArray => Ending.returned (Value.string (s.extract (n * 2) (n * 2 + 2)))) (by decide +kernel)

set_option maxRecDepth 100000 in
set_option maxHeartbeats 400000 in
theorem FormatInt_any (n : Nat) (hn : n < 100) (w : World) :
    Calls Tryd.prog 42 #[.int .i64 (n : Int), .int .i64 10] w fun e w' => e = .returned (.string (itoaB n)) ∧ w = w' := by
  go_enter Tryd.func42, Tryd.ntmps42
  go_wp2_with (first | (go_at_call 43; refine (small_any n hn _).mono ?_; rintro e w' ⟨rfl, rfl⟩) | fail)
  go_ret
  exact ⟨rfl, rfl⟩
theorem IItoa_any (n : Nat) (hn : n < 100) (w : World) :
    Calls Tryd.prog 39 #[.int .i64 (n : Int)] w fun e w' => e = .returned (.string (itoaB n)) ∧ w = w' := by
  go_enter Tryd.func39, Tryd.ntmps39
  go_wp2_with (first | (go_at_call 42; refine (FormatInt_any n hn _).mono ?_; rintro e w' ⟨rfl, rfl⟩) | fail)
  go_ret
  exact ⟨rfl, rfl⟩
theorem Itoa_any (n : Nat) (hn : n < 100) (w : World) :
    Calls Tryd.prog 31 #[.int .i64 (n : Int)] w fun e w' => e = .returned (.string (itoaB n)) ∧ w = w' := by
  go_enter Tryd.func31, Tryd.ntmps31
  go_wp2_with (first | (go_at_call 39; refine (IItoa_any n hn _).mono ?_; rintro e w' ⟨rfl, rfl⟩) | fail)
  go_ret
  exact ⟨rfl, rfl⟩

theorem itoa_size : ∀ n, n < 100 → (itoaB n).size ≤ 2 := by decide +kernel
theorem itoa_inj : ∀ n, n < 100 → ∀ m, m < 100 → itoaB n = itoaB m → n = m := by decide +kernel

/-- Has a symbol that name? -/
def bearsB (l : List Sm) (s : ByteArray) : Bool := l.any fun x => decide (x.name = s)
theorem bears_hit {l : List Sm} {k : Nat} {x : Sm} {s : ByteArray} (hx : l[k]? = some x) (h : x.name = s) : bearsB l s = true := by
  unfold bearsB
  rw [List.any_eq_true]
  exact ⟨x, List.mem_of_getElem? hx, by simpa using h⟩
theorem bears_miss {l : List Sm} {s : ByteArray} (h : ∀ j x, j < l.length → l[j]? = some x → x.name ≠ s) : bearsB l s = false := by
  unfold bearsB
  rw [List.any_eq_false]
  intro x hx
  obtain ⟨j, hj, rfl⟩ := List.getElem_of_mem hx
  simpa using h j _ hj (List.getElem?_eq_getElem hj)
theorem name_before {l : List Sm} {k : Nat} {y : Sm} {s : ByteArray} (h : ∀ j x, j < k → l[j]? = some x → x.name ≠ s) (hy : l[k]? = some y) (hne : y.name ≠ s) : ∀ j x, j < k + 1 → l[j]? = some x → x.name ≠ s := by
  intro j x hlt hx
  by_cases e : j = k
  · subst e; rw [hy] at hx; injection hx with hx; subst hx; exact hne
  · exact h j x (by omega) hx

theorem bytes_ne {a b : ByteArray} (h : a ≠ b) : (a.toList == b.toList) = false := by
  rw [beq_eq_false_iff_ne]
  intro e
  rw [ByteArray.toList_eq, ByteArray.toList_eq] at e
  exact h (ByteArray.ext (Array.toList_inj.1 e))

set_option maxHeartbeats 400000 in
theorem Bears_any (A : Option Addr) (n c : Nat) (l : List Sm) (s : ByteArray) (w : World) (h : Syms w w.heap.size A n l) (hn : n ≤ 9223372036854775807) :
    Calls Tryd.prog 32 #[.agg #[.slice A n c], .string s] w fun e w' => e = .returned (.bool (bearsB l s)) ∧ Below w.heap.size w w' := by
  go_enter Tryd.func32, Tryd.ntmps32
  go_wp2
  obtain ⟨W, hW⟩ : ∃ W, w.alloc (.cells #[.slice A n c] 24) = W := ⟨_, rfl⟩
  have hWB : Below w.heap.size w W := by rw [← hW]; exact (Below.refl _ _).alloc (Nat.le_refl _) _
  have x1 : W.cell? ⟨w.heap.size, 0, none⟩ = some (.slice A n c) := by rw [← hW]; clear hW; go_simp
  rw [hW]
  have g := h.below hWB
  clear hW h
  go_loop [5] (fun i => ∃ k : Nat, k ≤ n ∧ i = .int .i64 k ∧ Hid (∀ j x, j < k → l[j]? = some x → x.name ≠ s)) (fun i => n - (intOf i).toNat)
  case atStart => exact ⟨0, Nat.zero_le _, rfl, fun j x h0 => absurd h0 (Nat.not_lt_zero _)⟩
  case round =>
    obtain ⟨k, hk, rfl, HA⟩ := hrel
    by_cases hlt : k < n
    · obtain ⟨b, off, rfl, hb, hc⟩ := g.ad (by omega)
      obtain ⟨y, hy⟩ : ∃ y, l[k]? = some y := ⟨_, List.getElem?_eq_getElem (by rw [g.len]; exact hlt)⟩
      obtain ⟨c1, _, _⟩ := hc k y hy
      have Hy := Lib.hid hy
      clear hy hc
      by_cases hne : y.name = s
      · have hs : (y.name.toList == s.toList) = true := by rw [hne]; simp
        have Hne := Lib.hid hne
        clear hne
        go_wp2
        go_ret
        exact ⟨ret_bool (bears_hit Hy.out Hne.out).symm, hWB⟩
      · have hs : (y.name.toList == s.toList) = false := bytes_ne hne
        go_wp2
        go_round
        case rel => exact ⟨k + 1, by omega, by go_num, name_before HA.out Hy.out hne⟩
        case measure => simp [intOf]; omega
    · have : k = n := by omega
      subst this
      go_wp2
      go_ret
      exact ⟨ret_bool (bears_miss (fun j x hj => HA.out j x (by rw [← g.len]; exact hj))).symm, hWB⟩

def IdxPost (l : List Sm) (s : ByteArray) (w : World) (e : Ending) (w' : World) : Prop := ∃ r : Int, e = .returned (.int .i64 r) ∧ ((bearsB l s = true ∧ 0 ≤ r) ∨ (bearsB l s = false ∧ r < 0)) ∧ Below w.heap.size w w'
set_option maxHeartbeats 400000 in
theorem namedF_any (y : Sm) (s : ByteArray) (Bc : Nat) (w : World) (hc : w.cell? ⟨Bc, 0, none⟩ = some (.string s)) :
    Calls Tryd.prog 38 #[.agg #[.string y.name, .int .i64 y.arity, .bool y.pred], .pointer (some ⟨Bc, 0, none⟩)] w fun e w' => e = .returned (.bool (decide (y.name = s))) ∧ Below w.heap.size w w' := by
  have hc' := cell_on ((Below.refl w.heap.size w).alloc (Nat.le_refl _) (.cells #[.string y.name, .int .i64 y.arity, .bool y.pred] 33)) (cell_lt hc) hc
  by_cases hne : y.name = s
  · have hs : (y.name.toList == s.toList) = true := by rw [hne]; simp
    have hf := Lib.hid (decide_eq_true hne)
    clear hne
    go_enter Tryd.func38, Tryd.ntmps38
    go_wp2
    go_ret
    exact ⟨ret_bool hf.out.symm, (Below.refl _ _).alloc (Nat.le_refl _) _⟩
  · have hs : (y.name.toList == s.toList) = false := bytes_ne hne
    have hf := Lib.hid (decide_eq_false hne)
    clear hne
    go_enter Tryd.func38, Tryd.ntmps38
    go_wp2
    go_ret
    exact ⟨ret_bool hf.out.symm, (Below.refl _ _).alloc (Nat.le_refl _) _⟩

set_option maxHeartbeats 400000 in
theorem IndexFunc_any (A : Option Addr) (n c Bc : Nat) (l : List Sm) (s : ByteArray) (w : World) (h : Syms w w.heap.size A n l) (hc : w.cell? ⟨Bc, 0, none⟩ = some (.string s)) (hn : n ≤ 9223372036854775807) :
    Calls Tryd.prog 41 #[.slice A n c, .func (.func 38) #[] #[.pointer (some ⟨Bc, 0, none⟩)]] w (IdxPost l s w) := by
  go_enter Tryd.func41, Tryd.ntmps41
  go_wp2
  go_loopw [8] (fun i wr => ∃ k : Nat, k ≤ n ∧ i = .int .i64 k ∧ Below w.heap.size w wr ∧ Hid (∀ j x, j < k → l[j]? = some x → x.name ≠ s)) (fun i _ => n - (intOf i).toNat)
  case atStart => exact ⟨0, Nat.zero_le _, rfl, Below.refl _ _, fun j x h0 => absurd h0 (Nat.not_lt_zero _)⟩
  case round =>
    obtain ⟨k, hk, rfl, hB, HA⟩ := hrel
    by_cases hlt : k < n
    · obtain ⟨b, off, rfl, hb, hcc⟩ := h.ad (by omega)
      obtain ⟨y, hy⟩ : ∃ y, l[k]? = some y := ⟨_, List.getElem?_eq_getElem (by rw [h.len]; exact hlt)⟩
      obtain ⟨c1, c2, c3⟩ := hcc k y hy
      have d1 := cell_on hB hb c1
      have d2 := cell_on hB hb c2
      have d3 := cell_on hB hb c3
      have hcx := Lib.hid (cell_on hB (cell_lt hc) hc)
      have Hy := Lib.hid hy
      clear hy hcc c1 c2 c3
      cases hne : decide (y.name = s) with
      | true =>
        have Hne := Lib.hid (of_decide_eq_true hne)
        have hd := Lib.hid hne
        clear hne
        go_wp2_with (first | (go_at_call 38; refine (namedF_any y s Bc _ hcx.out).mono ?_; rintro e w1 ⟨rfl, hb1⟩; rw [hd.out]) | fail)
        go_ret
        exact ⟨_, rfl, .inl ⟨bears_hit Hy.out Hne.out, by omega⟩, hB.trans (hb1.mono hB.size)⟩
      | false =>
        have Hne := Lib.hid (of_decide_eq_false hne)
        have hd := Lib.hid hne
        clear hne
        go_wp2_with (first | (go_at_call 38; refine (namedF_any y s Bc _ hcx.out).mono ?_; rintro e w1 ⟨rfl, hb1⟩; rw [hd.out]) | fail)
        go_roundw
        case rel => exact ⟨k + 1, by omega, by go_num, hB.trans (hb1.mono hB.size), name_before HA.out Hy.out Hne.out⟩
        case measure => simp [intOf]; omega
    · have : k = n := by omega
      subst this
      go_wp2
      go_ret
      exact ⟨-1, rfl, .inr ⟨bears_miss (fun j x hj => HA.out j x (by rw [← h.len]; exact hj)), by omega⟩, hB⟩

set_option maxHeartbeats 400000 in
theorem ContainsFunc_any (A : Option Addr) (n c Bc : Nat) (l : List Sm) (s : ByteArray) (w : World) (h : Syms w w.heap.size A n l) (hc : w.cell? ⟨Bc, 0, none⟩ = some (.string s)) (hn : n ≤ 9223372036854775807) :
    Calls Tryd.prog 37 #[.slice A n c, .func (.func 38) #[] #[.pointer (some ⟨Bc, 0, none⟩)]] w fun e w' => e = .returned (.bool (bearsB l s)) ∧ Below w.heap.size w w' := by
  go_enter Tryd.func37, Tryd.ntmps37
  go_wp2_with (first | (go_at_call 41; refine (IndexFunc_any A n c Bc l s w h hc hn).mono ?_; rintro e w1 ⟨r, rfl, ⟨hb, hr⟩ | ⟨hb, hr⟩, hb1⟩) | fail)
  all_goals
    go_ret
    exact ⟨ret_bool (by first | exact hb.symm | exact (decide_eq_true hr).trans hb.symm | exact (decide_eq_false (by omega)).trans hb.symm), hb1⟩

set_option maxHeartbeats 400000 in
theorem named_any (A : Option Addr) (n c : Nat) (l : List Sm) (s : ByteArray) (w : World) (h : Syms w w.heap.size A n l) (hn : n ≤ 9223372036854775807) :
    Calls Tryd.prog 30 #[.agg #[.slice A n c], .string s] w fun e w' => e = .returned (.bool (bearsB l s)) ∧ Below w.heap.size w w' := by
  have hB : Below w.heap.size w ((w.alloc (.cells #[.slice A n c] 24)).alloc (.cells #[.string s] 9)) := ((Below.refl _ _).alloc (Nat.le_refl _) _).alloc (by simp) _
  go_enter Tryd.func30, Tryd.ntmps30
  go_wp2_with (first | (go_at_call 37; refine (ContainsFunc_any A n c _ l s _ (h.on hB) (by go_simp) hn).mono ?_; rintro e w1 ⟨rfl, hb1⟩) | fail)
  go_ret
  exact ⟨rfl, bl_step hB hb1⟩
end Go.Proofs.YtmcdnjhdmifpeaaDoor
