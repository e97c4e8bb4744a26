/- SubstTwice: the law. SubstTwice: substitutions that may not be. -/
import Derived.Test.YtfkefogmpmcfeaaV3
import Derived.Deep.DeepCutAuto
namespace Go.Proofs.Ytfkefogmpmcfeaa
open Go.RowKit Go.Shelf
set_option maxRecDepth 100000

theorem Binds.up {l : List Bd} {A : Option Addr} {w1 w2 : World} (h : Binds w1 (· < w1.heap.size) A l) (hb : Below w1.heap.size w1 w2) : Binds w2 (· < w2.heap.size) A l := (h.keep fun g e => hb.block g e).wide fun _ e => Nat.lt_of_lt_of_le e hb.size

theorem compose_some (la lb : List Bd) (A : Option Addr) (c : Nat) (A2 : Option Addr) (c2 : Nat) (w : World) (hla : la.length ≤ 1048576) (hlb : lb.length ≤ 1048576) (hsa : ∀ x ∈ la, x.t.size ≤ 4398046511104) (hsb : ∀ x ∈ lb, x.t.size ≤ 4398046511104) (hA : Binds w (· < w.heap.size) A la) (hA2 : Binds w (· < w.heap.size) A2 lb) :
    Calls Try.prog 30 #[.slice A la.length c, .slice A2 lb.length c2] w fun e w' => (∃ v n, e = .returned (.tuple #[v, .int .i64 n])) ∧ Below w.heap.size w w' := by
  by_cases h : chkB la = true ∧ chkB lb = true
  · exact (compose_at la lb A c A2 c2 w hla hlb hsa hsb hA hA2 h.1 h.2).mono fun e w' ⟨A', c', he, _, hb⟩ => ⟨⟨_, _, he⟩, hb⟩
  · refine (compose_no la lb A c A2 c2 w hla hlb hA hA2 ?_).mono fun e w' ⟨he, hb⟩ => ⟨⟨_, _, he⟩, hb⟩
    rcases h1 : chkB la with _ | _
    · exact .inl rfl
    · rcases h2 : chkB lb with _ | _
      · exact .inr rfl
      · exact absurd ⟨h1, h2⟩ h

/-- The law's arguments. -/
structure TwiceC (la lb lc : List Bd) (t : Tm) (A B C : Option Addr) (At : Option Addr) (w : World) : Prop where
  a : Binds w (· < w.heap.size) A la
  b : Binds w (· < w.heap.size) B lb
  c : Binds w (· < w.heap.size) C lc
  sa : ∀ x ∈ la, x.t.size ≤ 1048576
  sb : ∀ x ∈ lb, x.t.size ≤ 1048576
  sc : ∀ x ∈ lc, x.t.size ≤ 1048576
  tf : I64 t.fn
  st : t.size ≤ 1048576
  ta : Args w w.heap.size At t.args

section
variable (la lb lc : List Bd) (t : Tm) (A B C At : Option Addr) (ca cb cc ct : Nat) (w : World)

set_option maxHeartbeats 4000000 in
/-- One of them is large. -/
theorem twice_large (h : TwiceC la lb lc t A B C At w) (hg : largeB 30 la = true ∨ largeB 30 lb = true ∨ largeB 30 lc = true ∨ 30 < t.size) :
    Calls Try.prog 7 #[.slice A la.length ca, .slice B lb.length cb, .slice C lc.length cc, .agg #[.int .i64 t.fn, .slice At t.args.length ct]] w fun e w' => e = .returned (.bool true) ∧ Below w.heap.size w w' := by
  have q0 := heap_alloc_new w (.cells #[.int .i64 t.fn, .slice At t.args.length ct] 31)
  obtain ⟨W, hW⟩ : ∃ W, w.alloc (.cells #[.int .i64 t.fn, .slice At t.args.length ct] 31) = W := ⟨_, rfl⟩
  have hB : Below w.heap.size w W := by rw [← hW]; exact (Below.refl _ _).alloc (Nat.le_refl _) _
  rw [hW] at q0
  have hWs : w.heap.size < W.heap.size := (Array.getElem?_eq_some_iff.1 q0).1
  have hS : ∀ w', Below W.heap.size W w' → w'.cell? ⟨w.heap.size, 0, none⟩ = some (.int .i64 t.fn) ∧ w'.cell? ⟨w.heap.size, 1, none⟩ = some (.slice At t.args.length ct) := fun w' h => by
    obtain ⟨x0, x1, _, _⟩ := cells_two ((h.block _ hWs).trans q0)
    exact ⟨x0, x1⟩
  have L : ∀ (l : List Bd) (D : Option Addr) (cd : Nat), Binds w (· < w.heap.size) D l → (∀ x ∈ l, x.t.size ≤ 1048576) → ∀ w1, Below W.heap.size W w1 → Calls Try.prog 14 #[.slice D l.length cd, .int .i64 30] w1 fun e w' => e = .returned (.bool (largeB 30 l)) ∧ Below w1.heap.size w1 w' := fun l D cd hD hs w1 hb =>
    large_any 30 l D cd w1 (fun x hx => Nat.le_trans (hs x hx) (by decide)) ((hD.up hB).up hb)
  have L1 := Lib.hid (L la A ca h.a h.sa)
  have L2 := Lib.hid (L lb B cb h.b h.sb)
  have L3 := Lib.hid (L lc C cc h.c h.sc)
  have L4 : ∀ w1, Below W.heap.size W w1 → Calls Try.prog 16 #[.agg #[.int .i64 t.fn, .slice At t.args.length ct], .int .i64 30] w1 fun e w' => e = .returned (.bool (decide ((30 : Int) < (t.size : Int)))) ∧ Below w1.heap.size w1 w' := fun w1 hb => subGreat_any t 30 At ct w1 (Nat.le_trans h.st (by decide)) h.tf ((h.ta.on hB).on hb)
  have L4 := Lib.hid L4
  have HW := Lib.hid hW
  have HS := Lib.hid hS
  clear hW hS L h q0
  rcases h1 : largeB 30 la with _ | _
  · rw [h1] at L1
    rcases h2 : largeB 30 lb with _ | _
    · rw [h2] at L2
      rcases h3 : largeB 30 lc with _ | _
      · rw [h3] at L3
        have hd := Lib.hid (decide_eq_true (show (30 : Int) < (t.size : Int) by
          rcases hg with h | h | h | h
          · rw [h1] at h; cases h
          · rw [h2] at h; cases h
          · rw [h3] at h; cases h
          · omega))
        clear hg h1 h2 h3
        go_enter Try.func7, Try.ntmps7
        go_upto_region 1 with fail
        rw [HW.out]
        go_wp2_with (first
          | (go_at_call 14; (with_reducible refine (L1.out W (Below.refl _ _)).mono ?_); go_must (rintro e w1 ⟨rfl, hb1⟩))
          | (go_at_call 14; (with_reducible refine (L2.out w1 hb1).mono ?_); go_must (rintro e w2 ⟨rfl, hb2⟩; have hB2 := bl_step hb1 hb2))
          | (go_at_call 14; (with_reducible refine (L3.out w2 hB2).mono ?_); go_must (rintro e w3 ⟨rfl, hb3⟩; have hB3 := bl_step hB2 hb3; obtain ⟨x0, x1⟩ := HS.out w3 hB3))
          | (go_at_call 16; (with_reducible refine (L4.out w3 hB3).mono ?_); go_must (rintro e w4 ⟨rfl, hb4⟩; rw [hd.out]; have hB4 := bl_step hB3 hb4))
          | (go_at_call 15; (with_reducible refine (subWakes_any w4).mono ?_); go_must (rintro e w5 ⟨rfl, hb5⟩; have hB5 := bl_step hB4 hb5))
          | fail)
        go_ret
        exact ⟨rfl, hB.trans (hB5.mono hB.size)⟩
      · rw [h3] at L3
        clear hg h1 h2 h3
        go_enter Try.func7, Try.ntmps7
        go_upto_region 1 with fail
        rw [HW.out]
        go_wp2_with (first
          | (go_at_call 14; (with_reducible refine (L1.out W (Below.refl _ _)).mono ?_); go_must (rintro e w1 ⟨rfl, hb1⟩))
          | (go_at_call 14; (with_reducible refine (L2.out w1 hb1).mono ?_); go_must (rintro e w2 ⟨rfl, hb2⟩; have hB2 := bl_step hb1 hb2))
          | (go_at_call 14; (with_reducible refine (L3.out w2 hB2).mono ?_); go_must (rintro e w3 ⟨rfl, hb3⟩; have hB3 := bl_step hB2 hb3))
          | (go_at_call 15; (with_reducible refine (subWakes_any w3).mono ?_); go_must (rintro e w5 ⟨rfl, hb5⟩; have hB5 := bl_step hB3 hb5))
          | fail)
        go_ret
        exact ⟨rfl, hB.trans (hB5.mono hB.size)⟩
    · rw [h2] at L2
      clear hg h1 h2
      go_enter Try.func7, Try.ntmps7
      go_upto_region 1 with fail
      rw [HW.out]
      go_wp2_with (first
        | (go_at_call 14; (with_reducible refine (L1.out W (Below.refl _ _)).mono ?_); go_must (rintro e w1 ⟨rfl, hb1⟩))
        | (go_at_call 14; (with_reducible refine (L2.out w1 hb1).mono ?_); go_must (rintro e w2 ⟨rfl, hb2⟩; have hB2 := bl_step hb1 hb2))
        | (go_at_call 15; (with_reducible refine (subWakes_any w2).mono ?_); go_must (rintro e w5 ⟨rfl, hb5⟩; have hB5 := bl_step hB2 hb5))
        | fail)
      go_ret
      exact ⟨rfl, hB.trans (hB5.mono hB.size)⟩
  · rw [h1] at L1
    clear hg h1
    go_enter Try.func7, Try.ntmps7
    go_upto_region 1 with fail
    rw [HW.out]
    go_wp2_with (first
      | (go_at_call 14; (with_reducible refine (L1.out W (Below.refl _ _)).mono ?_); go_must (rintro e w1 ⟨rfl, hb1⟩))
      | (go_at_call 15; (with_reducible refine (subWakes_any w1).mono ?_); go_must (rintro e w5 ⟨rfl, hb5⟩; have hB5 := bl_step hb1 hb5))
      | fail)
    go_ret
    exact ⟨rfl, hB.trans (hB5.mono hB.size)⟩
end
end Go.Proofs.Ytfkefogmpmcfeaa

namespace Go.Proofs.Ytfkefogmpmcfeaa
open Go.RowKit Go.Shelf
set_option maxRecDepth 100000

section
variable (la lb lc : List Bd) (t : Tm) (A B C At : Option Addr) (ca cb cc ct : Nat) (w : World)

set_option maxHeartbeats 4000000 in
theorem twice_no (h : TwiceC la lb lc t A B C At w) (h1 : largeB 30 la = false) (h2 : largeB 30 lb = false) (h3 : largeB 30 lc = false) (h4 : ¬ 30 < t.size) (hn : ¬ (chkB la = true ∧ chkB lb = true ∧ chkB lc = true)) :
    Calls Try.prog 7 #[.slice A la.length ca, .slice B lb.length cb, .slice C lc.length cc, .agg #[.int .i64 t.fn, .slice At t.args.length ct]] w fun e w' => e = .returned (.bool true) ∧ Below w.heap.size w w' := by
  have q0 := heap_alloc_new w (.cells #[.int .i64 t.fn, .slice At t.args.length ct] 31)
  obtain ⟨W, hW⟩ : ∃ W, w.alloc (.cells #[.int .i64 t.fn, .slice At t.args.length ct] 31) = W := ⟨_, rfl⟩
  have hB : Below w.heap.size w W := by rw [← hW]; exact (Below.refl _ _).alloc (Nat.le_refl _) _
  rw [hW] at q0
  have hWs : w.heap.size < W.heap.size := (Array.getElem?_eq_some_iff.1 q0).1
  have hS : ∀ w', Below W.heap.size W w' → w'.cell? ⟨w.heap.size, 0, none⟩ = some (.int .i64 t.fn) ∧ w'.cell? ⟨w.heap.size, 1, none⟩ = some (.slice At t.args.length ct) := fun w' h => by
    obtain ⟨x0, x1, _, _⟩ := cells_two ((h.block _ hWs).trans q0)
    exact ⟨x0, x1⟩
  have L : ∀ (l : List Bd) (D : Option Addr) (cd : Nat), Binds w (· < w.heap.size) D l → (∀ x ∈ l, x.t.size ≤ 1048576) → ∀ w1, Below W.heap.size W w1 → Calls Try.prog 14 #[.slice D l.length cd, .int .i64 30] w1 fun e w' => e = .returned (.bool (largeB 30 l)) ∧ Below w1.heap.size w1 w' := fun l D cd hD hs w1 hb =>
    large_any 30 l D cd w1 (fun x hx => Nat.le_trans (hs x hx) (by decide)) ((hD.up hB).up hb)
  have L1 := Lib.hid (L la A ca h.a h.sa)
  have L2 := Lib.hid (L lb B cb h.b h.sb)
  have L3 := Lib.hid (L lc C cc h.c h.sc)
  have L4 : ∀ w1, Below W.heap.size W w1 → Calls Try.prog 16 #[.agg #[.int .i64 t.fn, .slice At t.args.length ct], .int .i64 30] w1 fun e w' => e = .returned (.bool (decide ((30 : Int) < (t.size : Int)))) ∧ Below w1.heap.size w1 w' := fun w1 hb => subGreat_any t 30 At ct w1 (Nat.le_trans h.st (by decide)) h.tf ((h.ta.on hB).on hb)
  have L4 := Lib.hid L4
  rw [h1] at L1
  rw [h2] at L2
  rw [h3] at L3
  have hd := Lib.hid (decide_eq_false (show ¬ (30 : Int) < (t.size : Int) by omega))
  obtain ⟨n1, _⟩ := largeB_small h1
  obtain ⟨n2, _⟩ := largeB_small h2
  obtain ⟨n3, _⟩ := largeB_small h3
  have S2 : ∀ w1, Below W.heap.size W w1 → _ := fun w1 hb => compose_some lb lc B cb C cc w1 (by omega) (by omega) (fun x hx => Nat.le_trans (h.sb x hx) (by decide)) (fun x hx => Nat.le_trans (h.sc x hx) (by decide)) ((h.b.up hB).up hb) ((h.c.up hB).up hb)
  have S2 := Lib.hid S2
  have HW := Lib.hid hW
  have HS := Lib.hid hS
  by_cases hab : chkB la = true ∧ chkB lb = true
  · have hbc : chkB lb = false ∨ chkB lc = false := by
      rcases hc : chkB lc with _ | _
      · exact .inr rfl
      · exact absurd ⟨hab.1, hab.2, hc⟩ hn
    have C1 : ∀ w1, Below W.heap.size W w1 → _ := fun w1 hb => compose_at la lb A ca B cb w1 (by omega) (by omega) (fun x hx => Nat.le_trans (h.sa x hx) (by decide)) (fun x hx => Nat.le_trans (h.sb x hx) (by decide)) ((h.a.up hB).up hb) ((h.b.up hB).up hb) hab.1 hab.2
    have C2 : ∀ w1, Below W.heap.size W w1 → _ := fun w1 hb => compose_no lb lc B cb C cc w1 (by omega) (by omega) ((h.b.up hB).up hb) ((h.c.up hB).up hb) hbc
    have C1 := Lib.hid C1
    have C2 := Lib.hid C2
    clear hW hS L h q0 h1 h2 h3 h4 hn hab hbc
    go_enter Try.func7, Try.ntmps7
    go_upto_region 1 with fail
    rw [HW.out]
    go_wp2_with (first
      | (go_at_call 14; (with_reducible refine (L1.out W (Below.refl _ _)).mono ?_); go_must (rintro e w1 ⟨rfl, hb1⟩))
      | (go_at_call 14; (with_reducible refine (L2.out w1 hb1).mono ?_); go_must (rintro e w2 ⟨rfl, hb2⟩; have hB2 := bl_step hb1 hb2))
      | (go_at_call 14; (with_reducible refine (L3.out w2 hB2).mono ?_); go_must (rintro e w3 ⟨rfl, hb3⟩; have hB3 := bl_step hB2 hb3; obtain ⟨x0, x1⟩ := HS.out w3 hB3))
      | (go_at_call 16; (with_reducible refine (L4.out w3 hB3).mono ?_); go_must (rintro e w4 ⟨rfl, hb4⟩; rw [hd.out]; have hB4 := bl_step hB3 hb4))
      | (go_at_call 30; (with_reducible refine (C1.out w4 hB4).mono ?_); go_must (rintro e w5 ⟨A5, c5, rfl, _, hb5⟩; have hB5 := bl_step hB4 hb5))
      | (go_at_call 30; (with_reducible refine (C2.out w5 hB5).mono ?_); go_must (rintro e w6 ⟨rfl, hb6⟩; have hB6 := bl_step hB5 hb6))
      | (go_at_call 15; (with_reducible refine (subWakes_any w6).mono ?_); go_must (rintro e w7 ⟨rfl, hb7⟩; have hB7 := bl_step hB6 hb7))
      | fail)
    go_ret
    exact ⟨rfl, hB.trans (hB7.mono hB.size)⟩
  · have hno : chkB la = false ∨ chkB lb = false := by
      rcases ha : chkB la with _ | _
      · exact .inl rfl
      · rcases hb : chkB lb with _ | _
        · exact .inr rfl
        · exact absurd ⟨ha, hb⟩ hab
    have C1 : ∀ w1, Below W.heap.size W w1 → _ := fun w1 hb => compose_no la lb A ca B cb w1 (by omega) (by omega) ((h.a.up hB).up hb) ((h.b.up hB).up hb) hno
    have C1 := Lib.hid C1
    clear hW hS L h q0 h1 h2 h3 h4 hn hab hno
    go_enter Try.func7, Try.ntmps7
    go_upto_region 1 with fail
    rw [HW.out]
    go_wp2_with (first
      | (go_at_call 14; (with_reducible refine (L1.out W (Below.refl _ _)).mono ?_); go_must (rintro e w1 ⟨rfl, hb1⟩))
      | (go_at_call 14; (with_reducible refine (L2.out w1 hb1).mono ?_); go_must (rintro e w2 ⟨rfl, hb2⟩; have hB2 := bl_step hb1 hb2))
      | (go_at_call 14; (with_reducible refine (L3.out w2 hB2).mono ?_); go_must (rintro e w3 ⟨rfl, hb3⟩; have hB3 := bl_step hB2 hb3; obtain ⟨x0, x1⟩ := HS.out w3 hB3))
      | (go_at_call 16; (with_reducible refine (L4.out w3 hB3).mono ?_); go_must (rintro e w4 ⟨rfl, hb4⟩; rw [hd.out]; have hB4 := bl_step hB3 hb4))
      | (go_at_call 30; (with_reducible refine (C1.out w4 hB4).mono ?_); go_must (rintro e w5 ⟨rfl, hb5⟩; have hB5 := bl_step hB4 hb5))
      | (go_at_call 30; (with_reducible refine (S2.out w5 hB5).mono ?_); go_must (rintro e w6 ⟨⟨v6, n6, rfl⟩, hb6⟩; have hB6 := bl_step hB5 hb6))
      | (go_at_call 15; (with_reducible refine (subWakes_any w6).mono ?_); go_must (rintro e w7 ⟨rfl, hb7⟩; have hB7 := bl_step hB6 hb7))
      | fail)
    go_ret
    exact ⟨rfl, hB.trans (hB7.mono hB.size)⟩
end
end Go.Proofs.Ytfkefogmpmcfeaa
