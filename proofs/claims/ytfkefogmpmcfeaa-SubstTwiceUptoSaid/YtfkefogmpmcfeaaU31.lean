/- SubstComposes: the law. -/
import Derived.Test.YtfkefogmpmcfeaaU30
import Derived.Test.YtfkefogmpmcfeaaU21
namespace Go.Proofs.Ytfkefogmpmcfeaa
open Go.RowKit Go.Shelf
set_option maxRecDepth 100000

theorem mrg_len (g : Bd → Bd) : ∀ (n : Nat) (xs ys : List Bd), xs.length + ys.length ≤ n → (mrg g xs ys).length ≤ xs.length + ys.length := by
  intro n
  induction n with
  | zero =>
    intro xs ys h
    obtain rfl : xs = [] := List.eq_nil_of_length_eq_zero (by omega)
    obtain rfl : ys = [] := List.eq_nil_of_length_eq_zero (by omega)
    simp [mrg]
  | succ n ih =>
    intro xs ys h
    match xs, ys with
    | [], ys => simp [mrg]
    | x :: xs, [] =>
      have := ih xs [] (by simp at h ⊢; omega)
      simp only [mrg, List.length_cons, List.length_nil] at this ⊢; omega
    | x :: xs, y :: ys =>
      simp only [List.length_cons] at h
      rw [mrg]
      split
      · split
        · have := ih xs ys (by omega)
          simp only [List.length_cons]; omega
        · have := ih xs (y :: ys) (by simp only [List.length_cons]; omega)
          simp only [List.length_cons] at this ⊢; omega
      · have := ih (x :: xs) ys (by simp only [List.length_cons]; omega)
        simp only [List.length_cons] at this ⊢; omega
theorem compB_len (la lb : List Bd) : (compB la lb).length ≤ la.length + lb.length :=
  Nat.le_trans (List.length_filter_le _ _) (mrg_len _ _ la lb (Nat.le_refl _))

/-- A substitution of memory of its own. -/
def BindsPost (L : List Bd) (w : World) (e : Ending) (w' : World) : Prop := ∃ A' c', e = .returned (.tuple #[.slice A' L.length c', .int .i64 0]) ∧ Binds w' (· < w'.heap.size) A' L ∧ Below w.heap.size w w'
theorem compose_at (la lb : List Bd) (A : Option Addr) (c : Nat) (A2 : Option Addr) (c2 : Nat) (w : World) (hla : la.length ≤ 1048576) (hlb : lb.length ≤ 1048576) (hsa : ∀ x ∈ la, x.t.size ≤ 4398046511104) (hsb : ∀ x ∈ lb, x.t.size ≤ 4398046511104) (hA : Binds w (· < w.heap.size) A la) (hA2 : Binds w (· < w.heap.size) A2 lb) (ha : chkB la = true) (hb : chkB lb = true) :
    Calls Try.prog 30 #[.slice A la.length c, .slice A2 lb.length c2] w (BindsPost (compB la lb) w) := by
  refine (compose_yes la lb A c A2 c2 w hla hlb hsa hsb hA hA2 ha hb).mono ?_
  rintro e w' ⟨A', c', S, rfl, hp, hs, hB, hbl⟩
  obtain rfl := sorted_mrg ha hb hp hs
  exact ⟨A', c', rfl, hB.wide fun g e => e.2, hbl⟩
theorem refCompose_at (la lb : List Bd) (A : Option Addr) (c : Nat) (A2 : Option Addr) (c2 : Nat) (w : World) (hla : la.length ≤ 1048576) (hlb : lb.length ≤ 1048576) (hsa : ∀ x ∈ la, x.t.size ≤ 4398046511104) (hsb : ∀ x ∈ lb, x.t.size ≤ 4398046511104) (hA : Binds w (· < w.heap.size) A la) (hA2 : Binds w (· < w.heap.size) A2 lb) (ha : chkB la = true) (hb : chkB lb = true) :
    Calls Try.prog 31 #[.slice A la.length c, .slice A2 lb.length c2] w (BindsPost (compB la lb) w) := by
  refine (refCompose_yes la lb A c A2 c2 w hla hlb hsa hsb hA hA2 ha hb).mono ?_
  rintro e w' ⟨v, l, rfl, hI, hbl⟩
  have hl := hI.len
  have := compB_len la lb
  obtain ⟨A', c', rfl, hB⟩ := hI.row.binds (M := (· < w'.heap.size)) (by omega) (fun g e => (row_lt hI.row.row g e).2) (fun g e => e.2.1)
  rw [hI.key] at hB
  exact ⟨A', c', by rw [hl], hB, hbl⟩

set_option maxHeartbeats 4000000 in
theorem SubstComposes_any (la lb : List Bd) (A : Option Addr) (c : Nat) (A2 : Option Addr) (c2 : Nat) (w : World) (hsa : ∀ x ∈ la, x.t.size ≤ 4398046511104) (hsb : ∀ x ∈ lb, x.t.size ≤ 4398046511104) (hA : Binds w (· < w.heap.size) A la) (hA2 : Binds w (· < w.heap.size) A2 lb) :
    Calls Try.prog 4 #[.slice A la.length c, .slice A2 lb.length c2] w fun e w' => e = .returned (.bool true) ∧ Below w.heap.size w w' := by
  have lift : ∀ (l : List Bd) (A : Option Addr) (w1 : World), Binds w (· < w.heap.size) A l → Below w.heap.size w w1 → Binds w1 (· < w1.heap.size) A l := fun l A w1 h hb => (h.keep fun g e => hb.block g e).wide fun g e => Nat.lt_of_lt_of_le e hb.size
  have HL := Lib.hid lift
  have HA := Lib.hid hA
  have HA2 := Lib.hid hA2
  have L1 := Lib.hid (large_any 100 la A c w (fun x hx => Nat.le_trans (hsa x hx) (by decide)) hA)
  have L2 : ∀ w1, Below w.heap.size w w1 → Calls Try.prog 14 #[.slice A2 lb.length c2, .int .i64 100] w1 fun e w' => e = .returned (.bool (largeB 100 lb)) ∧ Below w1.heap.size w1 w' := fun w1 hb => large_any 100 lb A2 c2 w1 (fun x hx => Nat.le_trans (hsb x hx) (by decide)) (lift lb A2 w1 hA2 hb)
  have L2 := Lib.hid L2
  have L1 := Lib.hid (show Calls Try.prog 14 #[.slice A la.length c, .int .i64 100] w fun e w' => e = .returned (.bool (largeB 100 la)) ∧ Below w.heap.size w w' from L1.out)
  rcases h1 : largeB 100 la with _ | _
  · rcases h2 : largeB 100 lb with _ | _
    · obtain ⟨n1, s1⟩ := largeB_small h1
      obtain ⟨n2, s2⟩ := largeB_small h2
      rw [h1] at L1
      rw [h2] at L2
      by_cases hc : chkB la = true ∧ chkB lb = true
      · obtain ⟨ca, cb⟩ := hc
        have C1 : ∀ w1, Below w.heap.size w w1 → _ := fun w1 hb => compose_at la lb A c A2 c2 w1 (by omega) (by omega) hsa hsb (lift la A w1 hA hb) (lift lb A2 w1 hA2 hb) ca cb
        have C2 : ∀ w1, Below w.heap.size w w1 → _ := fun w1 hb => refCompose_at la lb A c A2 c2 w1 (by omega) (by omega) hsa hsb (lift la A w1 hA hb) (lift lb A2 w1 hA2 hb) ca cb
        have C1 := Lib.hid C1
        have C2 := Lib.hid C2
        obtain ⟨R, hR⟩ : ∃ R, compB la lb = R := ⟨_, rfl⟩
        rw [hR] at C1 C2
        have hsr := Lib.hid (sameB_refl R)
        clear hA hA2 lift hsa hsb s1 s2 hR h1 h2 ca cb
        go_enter Try.func4, Try.ntmps4
        go_wp2_with (first
          | (go_at_call 14; (with_reducible refine L1.out.mono ?_); go_must (rintro e w1 ⟨rfl, hb1⟩))
          | (go_at_call 14; (with_reducible refine (L2.out w1 hb1).mono ?_); go_must (rintro e w2 ⟨rfl, hb2⟩; have hB2 := hb1.trans (hb2.mono hb1.size)))
          | (go_at_call 30; (with_reducible refine (C1.out w2 hB2).mono ?_); go_must (rintro e w3 ⟨A3, c3, rfl, hD3, hb3⟩; have hD3 := Lib.hid hD3; have hB3 := hB2.trans (hb3.mono hB2.size)))
          | (go_at_call 31; (with_reducible refine (C2.out w3 hB3).mono ?_); go_must (rintro e w4 ⟨A4, c4, rfl, hD4, hb4⟩; have hD4 := Lib.hid hD4; have hB4 := hB3.trans (hb4.mono hB3.size)))
          | (go_at_call 22; (with_reducible refine (refSubSame_any R R A3 A4 c3 c4 w4 ((hD3.out.keep fun g e => hb4.block g e).wide fun g e => Nat.lt_of_lt_of_le e hb4.size) hD4.out).mono ?_); go_must (rintro e w5 ⟨rfl, hb5⟩; rw [hsr.out]; have hB5 := hB4.trans (hb5.mono hB4.size)))
          | (go_at_call 15; (with_reducible refine (subWakes_any w5).mono ?_); go_must (rintro e w6 ⟨rfl, hb6⟩; have hB6 := hB5.trans (hb6.mono hB5.size)))
          | fail)
        go_ret
        exact ⟨rfl, hB6⟩
      · have hno : chkB la = false ∨ chkB lb = false := by
          rcases ha : chkB la with _ | _
          · exact .inl rfl
          · rcases hb : chkB lb with _ | _
            · exact .inr rfl
            · exact absurd ⟨ha, hb⟩ hc
        have C1 : ∀ w1, Below w.heap.size w w1 → _ := fun w1 hb => compose_no la lb A c A2 c2 w1 (by omega) (by omega) (lift la A w1 hA hb) (lift lb A2 w1 hA2 hb) hno
        have C2 : ∀ w1, Below w.heap.size w w1 → _ := fun w1 hb => refCompose_no la lb A c A2 c2 w1 (by omega) (by omega) (lift la A w1 hA hb) (lift lb A2 w1 hA2 hb) hno
        have C1 := Lib.hid C1
        have C2 := Lib.hid C2
        have C3 : ∀ w1 : World, Calls Try.prog 22 #[.slice none 0 0, .slice none 0 0] w1 fun e w' => e = .returned (.bool true) ∧ Below w1.heap.size w1 w' := fun w1 => refSubSame_any [] [] none none 0 0 w1 (Binds.nil_ _ _ _) (Binds.nil_ _ _ _)
        have C3 := Lib.hid C3
        clear hA hA2 lift hsa hsb s1 s2 h1 h2 hc hno
        go_enter Try.func4, Try.ntmps4
        go_wp2_with (first
          | (go_at_call 14; (with_reducible refine L1.out.mono ?_); go_must (rintro e w1 ⟨rfl, hb1⟩))
          | (go_at_call 14; (with_reducible refine (L2.out w1 hb1).mono ?_); go_must (rintro e w2 ⟨rfl, hb2⟩; have hB2 := hb1.trans (hb2.mono hb1.size)))
          | (go_at_call 30; (with_reducible refine (C1.out w2 hB2).mono ?_); go_must (rintro e w3 ⟨rfl, hb3⟩; have hB3 := hB2.trans (hb3.mono hB2.size)))
          | (go_at_call 31; (with_reducible refine (C2.out w3 hB3).mono ?_); go_must (rintro e w4 ⟨rfl, hb4⟩; have hB4 := hB3.trans (hb4.mono hB3.size)))
          | (go_at_call 22; (with_reducible refine (C3.out w4).mono ?_); go_must (rintro e w5 ⟨rfl, hb5⟩; have hB5 := hB4.trans (hb5.mono hB4.size)))
          | (go_at_call 15; (with_reducible refine (subWakes_any w5).mono ?_); go_must (rintro e w6 ⟨rfl, hb6⟩; have hB6 := hB5.trans (hb6.mono hB5.size)))
          | fail)
        go_ret
        exact ⟨rfl, hB6⟩
    · rw [h1] at L1
      rw [h2] at L2
      clear hA hA2 lift hsa hsb h1 h2
      go_enter Try.func4, Try.ntmps4
      go_wp2_with (first
        | (go_at_call 14; (with_reducible refine L1.out.mono ?_); go_must (rintro e w1 ⟨rfl, hb1⟩))
        | (go_at_call 14; (with_reducible refine (L2.out w1 hb1).mono ?_); go_must (rintro e w2 ⟨rfl, hb2⟩; have hB2 := hb1.trans (hb2.mono hb1.size)))
        | (go_at_call 15; (with_reducible refine (subWakes_any w2).mono ?_); go_must (rintro e w6 ⟨rfl, hb6⟩; have hB6 := hB2.trans (hb6.mono hB2.size)))
        | fail)
      go_ret
      exact ⟨rfl, hB6⟩
  · rw [h1] at L1
    clear hA hA2 lift hsa hsb h1
    go_enter Try.func4, Try.ntmps4
    go_wp2_with (first
      | (go_at_call 14; (with_reducible refine L1.out.mono ?_); go_must (rintro e w1 ⟨rfl, hb1⟩))
      | (go_at_call 15; (with_reducible refine (subWakes_any w1).mono ?_); go_must (rintro e w6 ⟨rfl, hb6⟩; have hB6 := hb1.trans (hb6.mono hb1.size)))
      | fail)
    go_ret
    exact ⟨rfl, hB6⟩
end Go.Proofs.Ytfkefogmpmcfeaa
