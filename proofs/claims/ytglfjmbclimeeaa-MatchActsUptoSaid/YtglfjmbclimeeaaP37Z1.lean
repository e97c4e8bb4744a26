import Derived.Test.YtglfjmbclimeeaaP35Z4
/- match: a nil matcher, walked: Term, sides, Lit; the law MatchNil. -/

namespace Go.Proofs.Ytglfjmbclimeeaa

open Go.RowKit Go.Shelf
set_option maxRecDepth 100000

set_option maxHeartbeats 1000000 in
theorem term_nil (p u : Tm) (A B : Option Addr) (c d : Nat) (w : World) : Calls Try.prog 9 #[.pointer none, .agg #[.int .i64 p.fn, .slice A p.args.length c], .agg #[.int .i64 u.fn, .slice B u.args.length d]] w fun e w' => e = .returned (.bool false) ∧ Below w.heap.size w w' := by
  have hBW : Below w.heap.size w ((w.alloc (.cells #[.int .i64 p.fn, .slice A p.args.length c] 31)).alloc (.cells #[.int .i64 u.fn, .slice B u.args.length d] 31)) := ((Below.refl _ _).alloc (Nat.le_refl _) _).alloc (by simp) _
  go_enter Try.func9, Try.ntmps9
  go_wp2_with (first
    | (go_at_call 33; refine (none_nil _).mono ?_; go_must (rintro e w1 ⟨rfl, rfl⟩))
    | fail)
  go_ret
  exact ⟨rfl, hBW⟩

theorem meth_mark (w : World) (p : Option Addr) : (method 257 23 (.pointer p) "Mark").run Try.prog w = .ok (15, .pointer p) w := by kernel_rfl

theorem meth_term (w : World) (p : Option Addr) : (method 257 23 (.pointer p) "Term").run Try.prog w = .ok (9, .pointer p) w := by kernel_rfl

theorem meth_back (w : World) (p : Option Addr) : (method 257 23 (.pointer p) "Back").run Try.prog w = .ok (13, .pointer p) w := by kernel_rfl

theorem cells_five {w : World} {g : Nat} {a b c d e : Value} {t : TypeId} (h : w.heap[g]? = some (.cells #[a, b, c, d, e] t)) : w.cell? ⟨g, 0, none⟩ = some a ∧ w.cell? ⟨g, 1, none⟩ = some b ∧ w.cell? ⟨g, 2, none⟩ = some c ∧ w.cell? ⟨g, 3, none⟩ = some d ∧ w.cell? ⟨g, 4, none⟩ = some e :=
  ⟨cells_n h 0 _ rfl, cells_n h 1 _ rfl, cells_n h 2 _ rfl, cells_n h 3 _ rfl, cells_n h 4 _ rfl⟩

/-- A literal's cells, at a call. -/
abbrev litV (n : Bool) (l r : Tm) (A B : Option Addr) (c d : Nat) : Value := .agg #[.bool n, .int .i64 l.fn, .slice A l.args.length c, .int .i64 r.fn, .slice B r.args.length d]

set_option maxHeartbeats 1000000 in
theorem sides_nil (n m : Bool) (p q t u : Tm) (A B C D : Option Addr) (a b c d : Nat) (w : World) : Calls Try.prog 38 #[.iface 23 (.pointer none), litV n p q A B a b, litV m t u C D c d] w fun e w' => e = .returned (.bool false) ∧ Below w.heap.size w w' := by
  obtain ⟨W, hW⟩ : ∃ W, (w.alloc (.cells #[.bool n, .int .i64 p.fn, .slice A p.args.length a, .int .i64 q.fn, .slice B q.args.length b] 35)).alloc (.cells #[.bool m, .int .i64 t.fn, .slice C t.args.length c, .int .i64 u.fn, .slice D u.args.length d] 35) = W := ⟨_, rfl⟩
  have hBW : Below w.heap.size w W := by rw [← hW]; exact ((Below.refl _ _).alloc (Nat.le_refl _) _).alloc (by simp) _
  have q1 := heap_alloc_new (w.alloc (.cells #[.bool n, .int .i64 p.fn, .slice A p.args.length a, .int .i64 q.fn, .slice B q.args.length b] 35)) (.cells #[.bool m, .int .i64 t.fn, .slice C t.args.length c, .int .i64 u.fn, .slice D u.args.length d] 35)
  have q0 := (Below.heap_alloc (w.alloc (.cells #[.bool n, .int .i64 p.fn, .slice A p.args.length a, .int .i64 q.fn, .slice B q.args.length b] 35)) (.cells #[.bool m, .int .i64 t.fn, .slice C t.args.length c, .int .i64 u.fn, .slice D u.args.length d] 35) w.heap.size (by simp)).trans (heap_alloc_new w _)
  rw [hW] at q0 q1
  rw [show (w.alloc (.cells #[.bool n, .int .i64 p.fn, .slice A p.args.length a, .int .i64 q.fn, .slice B q.args.length b] 35)).heap.size = w.heap.size + 1 by simp] at q1
  obtain ⟨x0, x1, x2, x3, x4⟩ := cells_five q0
  obtain ⟨y0, y1, y2, y3, y4⟩ := cells_five q1
  have HW := Lib.hid hW
  have HT := Lib.hid (term_nil p t A C a c W)
  clear hW q0 q1
  have m1 := meth_mark
  have m2 := meth_term
  have m3 := meth_back
  go_enter Try.func38, Try.ntmps38
  go_upto_region 1 with fail
  rw [HW.out]
  go_wp2_with (first
    | (go_at_call 15; refine (mark_nil _).mono ?_; go_must (rintro e w1 ⟨rfl, rfl⟩))
    | (go_at_call 9; with_reducible refine HT.out.mono ?_; go_must (rintro e w2 ⟨rfl, hb2⟩))
    | (go_at_call 13; refine (back_nil _ _).mono ?_; go_must (rintro e w3 ⟨rfl, rfl⟩))
    | fail)
  go_ret
  exact ⟨rfl, hBW.trans (hb2.mono hBW.size)⟩

end Go.Proofs.Ytglfjmbclimeeaa

/- match: Lit, walked. -/

namespace Go.Proofs.Ytglfjmbclimeeaa

open Go.RowKit Go.Shelf
set_option maxRecDepth 100000

/-- Do two literals go together? -/
def litOk (n m : Bool) (p q t u : Tm) : Bool := (n == m) && (atomL p q == atomL t u)

set_option maxHeartbeats 4000000 in
theorem mlit_any (P : Bool → World → Prop) (pt : Option Addr) (n m tr : Bool) (p q t u : Tm) (A B C D : Option Addr) (a b c d : Nat) (w : World)
    (hS : ∀ w1, Below w.heap.size w w1 → Calls Try.prog 38 #[.iface 23 (.pointer pt), litV n p q A B a b, if tr then litV m u t D C d c else litV m t u C D c d] w1 fun e w' => ∃ r, e = .returned (.bool r) ∧ P r w') :
    Calls Try.prog 11 #[.pointer pt, litV n p q A B a b, litV m t u C D c d, .bool tr] w fun e w' => ∃ r, e = .returned (.bool r) ∧ ((litOk n m p q t u = true ∧ P r w') ∨ (litOk n m p q t u = false ∧ r = false ∧ Below w.heap.size w w')) := by
  obtain ⟨W, hW⟩ : ∃ W, (w.alloc (.cells #[.bool n, .int .i64 p.fn, .slice A p.args.length a, .int .i64 q.fn, .slice B q.args.length b] 35)).alloc (.cells #[.bool m, .int .i64 t.fn, .slice C t.args.length c, .int .i64 u.fn, .slice D u.args.length d] 35) = W := ⟨_, rfl⟩
  have hBW : Below w.heap.size w W := by rw [← hW]; exact ((Below.refl _ _).alloc (Nat.le_refl _) _).alloc (by simp) _
  have hWz : W.heap.size = w.heap.size + 2 := by rw [← hW]; simp
  have q1 := heap_alloc_new (w.alloc (.cells #[.bool n, .int .i64 p.fn, .slice A p.args.length a, .int .i64 q.fn, .slice B q.args.length b] 35)) (.cells #[.bool m, .int .i64 t.fn, .slice C t.args.length c, .int .i64 u.fn, .slice D u.args.length d] 35)
  have q0 := (Below.heap_alloc (w.alloc (.cells #[.bool n, .int .i64 p.fn, .slice A p.args.length a, .int .i64 q.fn, .slice B q.args.length b] 35)) (.cells #[.bool m, .int .i64 t.fn, .slice C t.args.length c, .int .i64 u.fn, .slice D u.args.length d] 35) w.heap.size (by simp)).trans (heap_alloc_new w _)
  rw [hW] at q0 q1
  rw [show (w.alloc (.cells #[.bool n, .int .i64 p.fn, .slice A p.args.length a, .int .i64 q.fn, .slice B q.args.length b] 35)).heap.size = w.heap.size + 1 by simp] at q1
  have HX := Lib.hid (fun (w1 : World) (h : Below W.heap.size W w1) => (⟨cells_five ((h.block _ (by omega)).trans q0), cells_five ((h.block _ (by omega)).trans q1)⟩ : (w1.cell? ⟨w.heap.size, 0, none⟩ = some (.bool n) ∧ w1.cell? ⟨w.heap.size, 1, none⟩ = some (.int .i64 p.fn) ∧ w1.cell? ⟨w.heap.size, 2, none⟩ = some (.slice A p.args.length a) ∧ w1.cell? ⟨w.heap.size, 3, none⟩ = some (.int .i64 q.fn) ∧ w1.cell? ⟨w.heap.size, 4, none⟩ = some (.slice B q.args.length b)) ∧ (w1.cell? ⟨w.heap.size + 1, 0, none⟩ = some (.bool m) ∧ w1.cell? ⟨w.heap.size + 1, 1, none⟩ = some (.int .i64 t.fn) ∧ w1.cell? ⟨w.heap.size + 1, 2, none⟩ = some (.slice C t.args.length c) ∧ w1.cell? ⟨w.heap.size + 1, 3, none⟩ = some (.int .i64 u.fn) ∧ w1.cell? ⟨w.heap.size + 1, 4, none⟩ = some (.slice D u.args.length d))))
  have j0 : ∀ y : Later W.heap.size W, y.w.cell? ⟨w.heap.size, 0, none⟩ = some (.bool n) := fun y => (HX.out _ y.h).1.1
  have j1 : ∀ y : Later W.heap.size W, y.w.cell? ⟨w.heap.size, 1, none⟩ = some (.int .i64 p.fn) := fun y => (HX.out _ y.h).1.2.1
  have j2 : ∀ y : Later W.heap.size W, y.w.cell? ⟨w.heap.size, 2, none⟩ = some (.slice A p.args.length a) := fun y => (HX.out _ y.h).1.2.2.1
  have j3 : ∀ y : Later W.heap.size W, y.w.cell? ⟨w.heap.size, 3, none⟩ = some (.int .i64 q.fn) := fun y => (HX.out _ y.h).1.2.2.2.1
  have j4 : ∀ y : Later W.heap.size W, y.w.cell? ⟨w.heap.size, 4, none⟩ = some (.slice B q.args.length b) := fun y => (HX.out _ y.h).1.2.2.2.2
  have k0 : ∀ y : Later W.heap.size W, y.w.cell? ⟨w.heap.size + 1, 0, none⟩ = some (.bool m) := fun y => (HX.out _ y.h).2.1
  have k1 : ∀ y : Later W.heap.size W, y.w.cell? ⟨w.heap.size + 1, 1, none⟩ = some (.int .i64 t.fn) := fun y => (HX.out _ y.h).2.2.1
  have k2 : ∀ y : Later W.heap.size W, y.w.cell? ⟨w.heap.size + 1, 2, none⟩ = some (.slice C t.args.length c) := fun y => (HX.out _ y.h).2.2.2.1
  have k3 : ∀ y : Later W.heap.size W, y.w.cell? ⟨w.heap.size + 1, 3, none⟩ = some (.int .i64 u.fn) := fun y => (HX.out _ y.h).2.2.2.2.1
  have k4 : ∀ y : Later W.heap.size W, y.w.cell? ⟨w.heap.size + 1, 4, none⟩ = some (.slice D u.args.length d) := fun y => (HX.out _ y.h).2.2.2.2.2
  have H1 := Lib.hid fun y : Later W.heap.size W => atom_any n p q A B a b y.w
  have H2 := Lib.hid fun y : Later W.heap.size W => atom_any m t u C D c d y.w
  obtain ⟨p1, hp1⟩ : ∃ p1, atomL p q = p1 := ⟨_, rfl⟩
  obtain ⟨p2, hp2⟩ : ∃ p2, atomL t u = p2 := ⟨_, rfl⟩
  rw [hp1] at H1
  rw [hp2] at H2
  have hok : litOk n m p q t u = ((n == m) && (p1 == p2)) := by unfold litOk; rw [hp1, hp2]
  have HW := Lib.hid hW
  have HS := Lib.hid hS
  have HQ := Lib.hid (fun (w1 : World) (h : Below W.heap.size W w1) => (h.block (w.heap.size + 1) (by omega)).trans q1)
  clear hW hS q0 q1 hp1 hp2
  rcases e1 : (n == m) with _ | _
  · have Hno := Lib.hid (show litOk n m p q t u = false by rw [hok, e1]; rfl)
    clear hok
    go_enter Try.func11, Try.ntmps11
    go_upto_region 1 with fail
    rw [HW.out]
    refine wp_region_later W.heap.size W (by kernel_rfl) (by kernel_rfl) (bl_drewN (Below.refl _ _) 1) ?_
    repeat (go_big_quiet_step (first
      | (go_at_call 37; first
        | (with_reducible refine calls_later _ (Nat.le_refl _) (H1.out _))
        | (with_reducible refine calls_later _ (Nat.le_refl _) (H2.out _)))
      | fail))
    refine wpQuiet_nil ?_
    rintro _ ⟨z, rfl⟩
    clear j0 j1 j2 j3 j4 k0 k1 k2 k3 k4 H1 H2
    go_wp2
    go_ret
    exact ⟨_, rfl, .inr ⟨Hno.out, rfl, hBW.trans (z.h.mono hBW.size)⟩⟩
  · rcases e2 : (p1 == p2) with _ | _
    · have Hno := Lib.hid (show litOk n m p q t u = false by rw [hok, e1, e2]; rfl)
      clear hok
      go_enter Try.func11, Try.ntmps11
      go_upto_region 1 with fail
      rw [HW.out]
      refine wp_region_later W.heap.size W (by kernel_rfl) (by kernel_rfl) (bl_drewN (Below.refl _ _) 1) ?_
      repeat (go_big_quiet_step (first
        | (go_at_call 37; first
          | (with_reducible refine calls_later _ (Nat.le_refl _) (H1.out _))
          | (with_reducible refine calls_later _ (Nat.le_refl _) (H2.out _)))
        | fail))
      refine wpQuiet_nil ?_
      rintro _ ⟨z, rfl⟩
      clear j0 j1 j2 j3 j4 k0 k1 k2 k3 k4 H1 H2
      go_wp2
      go_ret
      exact ⟨_, rfl, .inr ⟨Hno.out, rfl, hBW.trans (z.h.mono hBW.size)⟩⟩
    · have Hok := Lib.hid (show litOk n m p q t u = true by rw [hok, e1, e2]; rfl)
      clear hok
      cases tr with
      | false =>
        go_enter Try.func11, Try.ntmps11
        go_upto_region 1 with fail
        rw [HW.out]
        refine wp_region_later W.heap.size W (by kernel_rfl) (by kernel_rfl) (bl_drewN (Below.refl _ _) 1) ?_
        repeat (go_big_quiet_step (first
          | (go_at_call 37; first
            | (with_reducible refine calls_later _ (Nat.le_refl _) (H1.out _))
            | (with_reducible refine calls_later _ (Nat.le_refl _) (H2.out _)))
          | fail))
        refine wpQuiet_nil ?_
        rintro _ ⟨z, rfl⟩
        have HS2 := Lib.hid (HS.out z.w (hBW.trans (z.h.mono hBW.size)))
        obtain ⟨⟨x0, x1, x2, x3, x4⟩, y0, y1, y2, y3, y4⟩ := HX.out z.w z.h
        clear j0 j1 j2 j3 j4 k0 k1 k2 k3 k4 H1 H2
        go_wp2_with (first
          | (go_at_call 38; refine HS2.out.mono ?_; go_must (rintro e w3 ⟨r, rfl, hP⟩))
          | fail)
        go_ret
        exact ⟨_, rfl, .inl ⟨Hok.out, hP⟩⟩
      | true =>
        go_enter Try.func11, Try.ntmps11
        go_upto_region 1 with fail
        rw [HW.out]
        refine wp_region_later W.heap.size W (by kernel_rfl) (by kernel_rfl) (bl_drewN (Below.refl _ _) 1) ?_
        repeat (go_big_quiet_step (first
          | (go_at_call 37; first
            | (with_reducible refine calls_later _ (Nat.le_refl _) (H1.out _))
            | (with_reducible refine calls_later _ (Nat.le_refl _) (H2.out _)))
          | fail))
        refine wpQuiet_nil ?_
        rintro _ ⟨z, rfl⟩
        obtain ⟨⟨x0, x1, x2, x3, x4⟩, y0, y1, y2, y3, y4⟩ := HX.out z.w z.h
        clear j0 j1 j2 j3 j4 k0 k1 k2 k3 k4 H1 H2
        have hq := HQ.out z.w z.h
        obtain ⟨f1, f2, f3, f4⟩ : z.w.frozen? ⟨w.heap.size + 1, 1, none⟩ = false ∧ z.w.frozen? ⟨w.heap.size + 1, 2, none⟩ = false ∧ z.w.frozen? ⟨w.heap.size + 1, 3, none⟩ = false ∧ z.w.frozen? ⟨w.heap.size + 1, 4, none⟩ = false := by refine ⟨?_, ?_, ?_, ?_⟩ <;> simp [World.frozen?, hq]
        clear hq
        go_upto_region 5 with fail
        have hS2 : ∀ x1 x2 x3 x4 : Value, Below w.heap.size w ((((z.w.setCell ⟨w.heap.size + 1, 1, none⟩ x1).setCell ⟨w.heap.size + 1, 2, none⟩ x2).setCell ⟨w.heap.size + 1, 3, none⟩ x3).setCell ⟨w.heap.size + 1, 4, none⟩ x4) := fun x1 x2 x3 x4 => ((((hBW.trans (z.h.mono hBW.size)).setCell (by show _ ≤ w.heap.size + 1; omega) _).setCell (by show _ ≤ w.heap.size + 1; omega) _).setCell (by show _ ≤ w.heap.size + 1; omega) _).setCell (by show _ ≤ w.heap.size + 1; omega) _
        have HS2 := Lib.hid (HS.out _ (hS2 (.int .i64 u.fn) (.slice D u.args.length d) (.int .i64 t.fn) (.slice C t.args.length c)))
        clear hS2
        go_wp2_with (first
          | (go_at_call 38; refine HS2.out.mono ?_; go_must (rintro e w3 ⟨r, rfl, hP⟩))
          | fail)
        go_ret
        exact ⟨_, rfl, .inl ⟨Hok.out, hP⟩⟩

end Go.Proofs.Ytglfjmbclimeeaa

/- match: the law MatchNil, walked. -/

namespace Go.Proofs.Ytglfjmbclimeeaa

open Go.RowKit Go.Shelf
set_option maxRecDepth 100000

theorem lit_nil (p t : Tm) (A C : Option Addr) (a c : Nat) (w : World) : Calls Try.prog 11 #[.pointer none, .agg #[.bool false, .int .i64 p.fn, .slice A p.args.length a, .int .i64 0, .slice none 0 0], .agg #[.bool false, .int .i64 t.fn, .slice C t.args.length c, .int .i64 0, .slice none 0 0], .bool false] w fun e w' => e = .returned (.bool false) ∧ Below w.heap.size w w' := by
  have h := mlit_any (fun r w' => r = false ∧ Below w.heap.size w w') none false false false p (.node 0 []) t (.node 0 []) A none C none a 0 c 0 w fun w1 h1 => (sides_nil false false p (.node 0 []) t (.node 0 []) A none C none a 0 c 0 w1).mono fun _ _ ⟨he, hb⟩ => ⟨_, he, rfl, h1.trans (hb.mono h1.size)⟩
  refine Calls.mono h ?_
  rintro e w' ⟨r, rfl, ⟨_, rfl, hb⟩ | ⟨_, rfl, hb⟩⟩
  · exact ⟨rfl, hb⟩
  · exact ⟨rfl, hb⟩

set_option maxHeartbeats 4000000 in
theorem MatchNil_any (p t : Tm) (n : Int) (A B : Option Addr) (c d : Nat) (w : World) :
    Calls Try.prog 7 #[.agg #[.int .i64 p.fn, .slice A p.args.length c], .agg #[.int .i64 t.fn, .slice B t.args.length d], .int .i64 n] w fun e w' => e = .returned (.bool true) ∧ Below w.heap.size w w' := by
  obtain ⟨W, hW⟩ : ∃ W, (w.alloc (.cells #[.int .i64 p.fn, .slice A p.args.length c] 31)).alloc (.cells #[.int .i64 t.fn, .slice B t.args.length d] 31) = W := ⟨_, rfl⟩
  have hBW : Below w.heap.size w W := by rw [← hW]; exact ((Below.refl _ _).alloc (Nat.le_refl _) _).alloc (by simp) _
  have hWz : W.heap.size = w.heap.size + 2 := by rw [← hW]; simp
  have q1 := heap_alloc_new (w.alloc (.cells #[.int .i64 p.fn, .slice A p.args.length c] 31)) (.cells #[.int .i64 t.fn, .slice B t.args.length d] 31)
  have q0 := (Below.heap_alloc (w.alloc (.cells #[.int .i64 p.fn, .slice A p.args.length c] 31)) (.cells #[.int .i64 t.fn, .slice B t.args.length d] 31) w.heap.size (by simp)).trans (heap_alloc_new w _)
  rw [hW] at q0 q1
  rw [show (w.alloc (.cells #[.int .i64 p.fn, .slice A p.args.length c] 31)).heap.size = w.heap.size + 1 by simp] at q1
  have HX := Lib.hid (fun (w1 : World) (h : Below W.heap.size W w1) => (⟨(cells_two ((h.block _ (by omega)).trans q0)).1, (cells_two ((h.block _ (by omega)).trans q0)).2.1, (cells_two ((h.block _ (by omega)).trans q1)).1, (cells_two ((h.block _ (by omega)).trans q1)).2.1⟩ : w1.cell? ⟨w.heap.size, 0, none⟩ = some (.int .i64 p.fn) ∧ w1.cell? ⟨w.heap.size, 1, none⟩ = some (.slice A p.args.length c) ∧ w1.cell? ⟨w.heap.size + 1, 0, none⟩ = some (.int .i64 t.fn) ∧ w1.cell? ⟨w.heap.size + 1, 1, none⟩ = some (.slice B t.args.length d)))
  have HW := Lib.hid hW
  clear hW q0 q1
  obtain ⟨x0, x1, x2, x3⟩ := HX.out W (Below.refl _ _)
  go_enter Try.func7, Try.ntmps7
  go_upto_region 1 with fail
  rw [HW.out]
  go_wp2_with (first
    | (go_at_call 13; refine (back_nil _ _).mono ?_; go_must (rintro e w0 ⟨rfl, rfl⟩))
    | (go_at_call 9; with_reducible refine (term_nil p t A B c d _).mono ?_; go_must (rintro e w1 ⟨rfl, hb1⟩; obtain ⟨y0, y1, y2, y3⟩ := HX.out w1 hb1))
    | (go_at_call 11; with_reducible refine (lit_nil p t A B c d _).mono ?_; go_must (rintro e w2 ⟨rfl, hb2⟩; have hB2 := hb1.trans (hb2.mono hb1.size)))
    | (go_at_call 15; refine (mark_nil _).mono ?_; go_must (rintro e w3 ⟨rfl, rfl⟩))
    | (go_at_call 18; refine (subst_nil _).mono ?_; go_must (rintro e w4 ⟨rfl, rfl⟩))
    | (go_at_call 20; with_reducible refine (mwakes_any _).mono ?_; go_must (rintro e w5 ⟨rfl, hb5⟩))
    | fail)
  go_ret
  exact ⟨rfl, hBW.trans ((hB2.trans (hb5.mono hB2.size)).mono hBW.size)⟩

end Go.Proofs.Ytglfjmbclimeeaa

