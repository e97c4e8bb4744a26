/- TermBack. -/
import Derived.Test.YtkgikjjngbifjaaDoorB4
import Derived.Test.YtkgikjjngbifjaaDoorO2
namespace Go.Proofs.YtkgikjjngbifjaaDoor
open Go.RowKit Go.Shelf
attribute [local go_sem] Oper.semAt_some
set_option maxRecDepth 100000

theorem ref3Size_at (t : Tm) (A : Option Addr) (c : Nat) (w : World) (hsz : t.size ≤ 4611686018427387904) (hf : I64 t.fn) (hA : Args w w.heap.size A t.args) :
    Calls Tryd.prog 20 #[.agg #[.int .i64 t.fn, .slice A t.args.length c]] w fun e w' => e = .returned (.int .i64 (t.size : Int)) ∧ Below w.heap.size w w' := refSize_any t hsz A c w hf hA
theorem ref3Depth_at (t : Tm) (A : Option Addr) (c : Nat) (w : World) (hsz : t.depth ≤ 4611686018427387904) (hf : I64 t.fn) (hA : Args w w.heap.size A t.args) :
    Calls Tryd.prog 22 #[.agg #[.int .i64 t.fn, .slice A t.args.length c]] w fun e w' => e = .returned (.int .i64 (t.depth : Int)) ∧ Below w.heap.size w w' := refDepth_any t hsz A c w hf hA

set_option maxHeartbeats 1000000 in
theorem great_any (t : Tm) (A : Option Addr) (c : Nat) (w : World) (hsz : t.size ≤ 4611686018427387904) (hf : I64 t.fn) (hA : Args w w.heap.size A t.args) :
    Calls Tryd.prog 26 #[.agg #[.int .i64 t.fn, .slice A t.args.length c]] w fun e w' => e = .returned (.bool (decide (1000 < t.size ∨ 200 < t.depth))) ∧ Below w.heap.size w w' := by
  obtain ⟨W, hW⟩ : ∃ W, w.alloc (.cells #[.int .i64 t.fn, .slice A t.args.length c] 27) = W := ⟨_, rfl⟩
  obtain ⟨hB, hlt, hS⟩ := box_term hW
  have hds := depth_le_size t
  have HW := Lib.hid hW
  have H1 := Lib.hid (hA.on hB)
  clear hW hA
  by_cases h1 : 1000 < t.size
  · have hr := Lib.hid (decide_eq_true (show 1000 < t.size ∨ 200 < t.depth from .inl h1))
    go_enter Tryd.func26, Tryd.ntmps26
    go_wp2_with (first
      | (go_at_call 20; rw [HW.out]; refine (ref3Size_at t A c W hsz hf H1.out).mono ?_; go_must (rintro e w1 ⟨rfl, hb1⟩))
      | fail)
    all_goals
      go_ret
      exact ⟨ret_bool rfl, hB.trans (hb1.mono hB.size)⟩
  · have hr : decide (1000 < t.size ∨ 200 < t.depth) = decide (200 < t.depth) := by simp [h1]
    have hr := Lib.hid hr
    by_cases h2 : 200 < t.depth
    · have hr2 := Lib.hid (decide_eq_true h2)
      go_enter Tryd.func26, Tryd.ntmps26
      go_wp2_with (first
        | (go_at_call 20; rw [HW.out]; refine (ref3Size_at t A c W hsz hf H1.out).mono ?_; go_must (rintro e w1 ⟨rfl, hb1⟩; obtain ⟨x0, x1⟩ := hS _ hb1))
        | (go_at_call 22; refine (ref3Depth_at t A c w1 (by omega) hf (H1.out.on hb1)).mono ?_; go_must (rintro e w2 ⟨rfl, hb2⟩; have hB2 := bl_step hb1 hb2))
        | fail)
      go_ret
      exact ⟨ret_bool (by simp [h1, h2]; omega), hB.trans (hB2.mono hB.size)⟩
    · have hr2 := Lib.hid (decide_eq_false h2)
      go_enter Tryd.func26, Tryd.ntmps26
      go_wp2_with (first
        | (go_at_call 20; rw [HW.out]; refine (ref3Size_at t A c W hsz hf H1.out).mono ?_; go_must (rintro e w1 ⟨rfl, hb1⟩; obtain ⟨x0, x1⟩ := hS _ hb1))
        | (go_at_call 22; refine (ref3Depth_at t A c w1 (by omega) hf (H1.out.on hb1)).mono ?_; go_must (rintro e w2 ⟨rfl, hb2⟩; have hB2 := bl_step hb1 hb2))
        | fail)
      go_ret
      exact ⟨ret_bool (by simp [h1, h2]; omega), hB.trans (hB2.mono hB.size)⟩

theorem great_true {t : Tm} (h : 1000 < t.size ∨ 200 < t.depth) (A : Option Addr) (c : Nat) (w : World) (hsz : t.size ≤ 4611686018427387904) (hf : I64 t.fn) (hA : Args w w.heap.size A t.args) :
    Calls Tryd.prog 26 #[.agg #[.int .i64 t.fn, .slice A t.args.length c]] w fun e w' => e = .returned (.bool true) ∧ Below w.heap.size w w' := by
  have := great_any t A c w hsz hf hA
  rwa [decide_eq_true h] at this
theorem great_false {t : Tm} (h : ¬ (1000 < t.size ∨ 200 < t.depth)) (A : Option Addr) (c : Nat) (w : World) (hsz : t.size ≤ 4611686018427387904) (hf : I64 t.fn) (hA : Args w w.heap.size A t.args) :
    Calls Tryd.prog 26 #[.agg #[.int .i64 t.fn, .slice A t.args.length c]] w fun e w' => e = .returned (.bool false) ∧ Below w.heap.size w w' := by
  have := great_any t A c w hsz hf hA
  rwa [decide_eq_false h] at this

/-- What stands at a place that is there; and put there again. -/
theorem termAt_at {t u : Tm} {p : List Int} (hs : subT t p = some u) (A : Option Addr) (c : Nat) (Ap : Option Addr) (cp : Nat) (w : World) (hsz : t.size ≤ 4398046511104) (hi : I64 t.fn) (hA : Args w w.heap.size A t.args) (hp : Ints w w.heap.size Ap p) :
    Calls Tryd.prog 27 #[.agg #[.int .i64 t.fn, .slice A t.args.length c], .slice Ap p.length cp] w fun e w' => ∃ A' c', e = .returned (.tuple #[.agg #[.int .i64 u.fn, .slice A' u.args.length c'], .bool true]) ∧ I64 u.fn ∧ Args w' w'.heap.size A' u.args ∧ Below w.heap.size w w' := by
  refine (termAt_any t p A c Ap cp w hsz hi hA hp).mono ?_
  have ha : atT t p = u := by unfold atT; rw [hs]; rfl
  rintro e w' ⟨A', c', rfl, h1, h2, h3⟩
  rw [ha] at h1 h2 ⊢
  rw [hs]
  exact ⟨A', c', rfl, h1, h2.args (Nat.le_refl _), h3⟩
theorem termPut_at {t u : Tm} {p : List Int} (hs : subT t p = some u) (A : Option Addr) (c : Nat) (Ap : Option Addr) (cp : Nat) (As : Option Addr) (cs : Nat) (w : World) (hsz : t.size ≤ 4398046511104) (hi : I64 t.fn) (hiu : I64 u.fn) (hA : Args w w.heap.size A t.args) (hp : Ints w w.heap.size Ap p) (hAs : Args w w.heap.size As u.args) :
    Calls Tryd.prog 29 #[.agg #[.int .i64 t.fn, .slice A t.args.length c], .slice Ap p.length cp, .agg #[.int .i64 u.fn, .slice As u.args.length cs]] w fun e w' => ∃ A' c', e = .returned (.tuple #[.agg #[.int .i64 t.fn, .slice A' t.args.length c'], .bool true]) ∧ Args w' w'.heap.size A' t.args ∧ Below w.heap.size w w' := by
  refine (termPut_any t p u A c Ap cp As cs w hsz (Nat.le_trans (sub_size hs) hsz) hi hiu hA hp hAs).mono ?_
  rintro e w' ⟨h1, h2⟩
  rw [hs] at h2
  obtain ⟨A', c', rfl, h3, h4⟩ := h2
  rw [put_self hs] at h4 ⊢
  exact ⟨A', c', rfl, h4, h1⟩
theorem same_self (t : Tm) (A A2 : Option Addr) (c c2 : Nat) (w : World) (hf : I64 t.fn) (hA : Args w w.heap.size A t.args) (hA2 : Args w w.heap.size A2 t.args) :
    Calls Tryd.prog 15 #[.agg #[.int .i64 t.fn, .slice A t.args.length c], .agg #[.int .i64 t.fn, .slice A2 t.args.length c2]] w fun e w' => e = .returned (.bool true) ∧ Below w.heap.size w w' := by
  refine (termSame_any t t A A2 c c2 w hf hf hA hA2).mono ?_
  rintro e w' ⟨rfl, h⟩
  exact ⟨ret_bool (decide_eq_true (cmp_refl t)), h⟩
/-- A function value is not nil. -/
theorem run_eql_seqP (f : Fn) (xs ys : Array Value) (w : World) : (binOp .eql 48 (.func f xs ys) .nilFunc).run Tryd.prog w = .ok (.bool false) w := by
  have h : ∀ d, (Op.equalIn (d + 1) 48 (.func f xs ys) .nilFunc).run Tryd.prog w = .ok false w := fun d => by
    simp [Op.equalIn, run_underlying Tryd.underlying48]
  simp only [binOp]
  simp [Op.equal, Op.maxDepth, h 9999]

/-- What TermBack keeps through its range: the count, the result's box, the term's box, all that was. -/
structure BkI (w : World) (n big : Nat) (T : Value × Value) (pre : List Vis) (Wx : World) : Prop where
  n : Boxed Wx n 3 (.int .i64 (pre.length : Int))
  r : Boxed Wx (w.heap.size + 1) 4 (.bool false)
  t : Wx.heap[w.heap.size]? = some (.cells #[T.1, T.2] 27)
  blw : Below w.heap.size w Wx
  big : big ≤ Wx.heap.size
theorem bk_frame {w : World} {n big b : Nat} {T : Value × Value} (hn : n < b) (hw : w.heap.size + 1 < b) : FrameC (fun _ g => g < b) (BkI w n big T) := by
  intro s A B h hk
  exact ⟨⟨(hk.block _ (by show _ < _; omega)).trans h.n, (hk.block _ (by show _ < _; omega)).trans h.r, (hk.block _ (by show _ < _; omega)).trans h.t, h.blw.trans (hk.below fun g e => by show g < _; omega), Nat.le_trans h.big hk.size⟩, fun g e => e⟩
theorem bk_bound {w : World} {n big b : Nat} {T : Value × Value} (hb : b ≤ big) : BoundC (fun _ g => g < b) (BkI w n big T) := by
  intro s A h g e
  have := h.big
  have e' : g < b := e
  omega
theorem BkI.put {w Wx : World} {n big l : Nat} {T : Value × Value} {pre : List Vis} {r : Loop} {o : Obj} (h : BkI w n big T pre Wx) (hl : Wx.heap[l]? = some (.loop r)) (hn : w.heap.size ≤ l) : BkI w n big T pre (Wx.putObj l o) :=
  ⟨put_block h.n hl, put_block h.r hl, put_block h.t hl, h.blw.trans ((Keeps.put Wx l o).below fun g e => by show g ≠ l; omega), by simpa using h.big⟩
theorem BkI.on {w Wx Wy : World} {n big : Nat} {T : Value × Value} {pre : List Vis} (h : BkI w n big T pre Wx) (hb : Below Wx.heap.size Wx Wy) : BkI w n big T pre Wy :=
  ⟨(hb.block _ h.n.lt).trans h.n, (hb.block _ h.r.lt).trans h.r, (hb.block _ (Array.getElem?_eq_some_iff.1 h.t).1).trans h.t, h.blw.trans (hb.mono h.blw.size), Nat.le_trans h.big hb.size⟩
theorem BkI.next {w Wx : World} {n big : Nat} {T : Value × Value} {pre : List Vis} {x : Vis} (h : BkI w n big T pre Wx) (hn : w.heap.size + 1 < n) : BkI w n big T (pre ++ [x]) (Wx.setCell ⟨n, 0, none⟩ (.int .i64 ((pre.length : Int) + 1))) := by
  have hk : ∀ g, g ≠ n → (Wx.setCell ⟨n, 0, none⟩ (.int .i64 ((pre.length : Int) + 1))).heap[g]? = Wx.heap[g]? := fun g e => heap_setCell_other _ _ _ _ e
  refine ⟨?_, (hk _ (by omega)).trans h.r, (hk _ (by omega)).trans h.t, h.blw.setCell (by show _ ≤ n; omega) _, by simpa using h.big⟩
  rw [List.length_append, show ((pre.length + [x].length : Nat) : Int) = (pre.length : Int) + 1 from by simp]
  exact Boxed.set _ h.n

set_option maxHeartbeats 4000000 in
theorem TermBack_any (t : Tm) (A : Option Addr) (c : Nat) (w : World) (hsz : t.size ≤ 4398046511104) (hf : I64 t.fn) (hA : Args w w.heap.size A t.args) (ht : tru w) :
    Calls Tryd.prog 6 #[.agg #[.int .i64 t.fn, .slice A t.args.length c]] w fun e w' => e = .returned (.bool true) ∧ Below w.heap.size w w' := by
  obtain ⟨q0, q1⟩ := heap2 w (.cells #[.int .i64 t.fn, .slice A t.args.length c] 27) (.cells #[.bool false] 4)
  obtain ⟨W, hW⟩ : ∃ W, ((w.alloc (.cells #[.int .i64 t.fn, .slice A t.args.length c] 27)).alloc (.cells #[.bool false] 4)) = W := ⟨_, rfl⟩
  have hB : Below w.heap.size w W := by rw [← hW]; exact ((Below.refl _ _).alloc (Nat.le_refl _) _).alloc (by simp) _
  rw [hW] at q0 q1
  have hWs : w.heap.size + 1 < W.heap.size := (Array.getElem?_eq_some_iff.1 q1).1
  have hds := depth_le_size t
  have H1 := Lib.hid (hA.on hB)
  have HT := Lib.hid (tru_below ht hB)
  have HW := Lib.hid hW
  have HA := Lib.hid hA
  have HT0 := Lib.hid ht
  clear hW hA ht
  refine (callsIn_wide (n := 3)).1 (callsIn_of_wp_marks Tryd.func6 rfl trivial ?_ rfl)
  simp only [Tryd.ntmps6, List.size_toArray, List.length_cons, List.length_nil, Nat.reduceAdd, Nat.reduceSub, Array.replicate_succ, Array.replicate_zero, List.push_toArray, List.append_toArray, List.nil_append, List.cons_append]
  refine wpIn_wide.2 ?_
  have fin : ∀ (w' : World), Below W.heap.size W w' → Below w.heap.size w w' := fun w' h => hB.trans (h.mono (by omega))
  by_cases hg : 1000 < t.size ∨ 200 < t.depth
  · have hgd := Lib.hid hg
    clear hg
    go_upto_region 1 with fail
    rw [HW.out]
    obtain ⟨c0, c1, _, _⟩ := cells_two q0
    go_wp2_with (first
      | (go_at_call 26; refine (great_true hgd.out A c W (by omega) hf H1.out).mono ?_; go_must (rintro e w1 ⟨rfl, hb1⟩; have r1 := (hb1.block _ hWs).trans q1))
      | (go_at_call 13; refine (wakes_any w1 (tru_below HT.out hb1)).mono ?_; go_must (rintro e w2 ⟨rfl, hb2⟩; have hB2 := bl_step hb1 hb2; have r2 := (hB2.block _ hWs).trans q1; have hc := Boxed.cell r2; have hfz := Boxed.frozen r2))
      | fail)
    have hc' := Boxed.cell (Boxed.set (.bool true) r2)
    exact ⟨.bool true, by simp [results, Tryd.results6, go_sem, hc'], rfl, (fin _ hB2).setCell (by show _ ≤ w.heap.size + 1; omega) _⟩
  · have hgd := Lib.hid hg
    clear hg
    have heq := run_eql_seqP
    go_upto_region 1 with fail
    rw [HW.out]
    obtain ⟨c0, c1, _, _⟩ := cells_two q0
    go_upto_region 4 with (first
      | (go_at_call 26; refine (great_false hgd.out A c W (by omega) hf H1.out).mono ?_; go_must (rintro e w1 ⟨rfl, hb1⟩; have r0 := (hb1.block _ (by omega)).trans q0; have r1 := (hb1.block _ hWs).trans q1; have hc := Boxed.cell r1; have hfz := Boxed.frozen r1))
      | fail)
    obtain ⟨W3, hW3⟩ : ∃ W3, w1.alloc (.cells #[.int .i64 0] 3) = W3 := ⟨_, rfl⟩
    have hB13 : Below w1.heap.size w1 W3 := by rw [← hW3]; exact (Below.refl _ _).alloc (Nat.le_refl _) _
    have hB3 := bl_step hb1 hB13
    have n3 : Boxed W3 w1.heap.size 3 (.int .i64 0) := by rw [← hW3]; exact heap_alloc_new _ _
    have s0 := (hB3.block _ (by omega)).trans q0
    have s1 : Boxed W3 (w.heap.size + 1) 4 (.bool false) := (hB3.block _ hWs).trans q1
    have HW3 := Lib.hid hW3
    clear hW3 hc hfz c0 c1 r0 r1
    obtain ⟨c0, c1, _, _⟩ := cells_two s0
    have h3l : w1.heap.size < W3.heap.size := n3.lt
    have h1l := hb1.size
    go_upto_region 4 with fail
    rw [HW3.out]
    go_wp2_with (first
      | (go_at_call 32; refine (termPlaces_any t A c W3 (by omega) hf (H1.out.on hB3)).mono ?_; go_must (rintro e w4 ⟨rfl, hb4, A4, c4, hbx, hO4⟩))
      | fail)
    have h4l : W3.heap.size < w4.heap.size := (Array.getElem?_eq_some_iff.1 hbx).1
    have hB4 : Below w.heap.size w w4 := (fin _ hB3).trans (hb4.mono (by omega))
    have n4 : Boxed w4 w1.heap.size 3 (.int .i64 0) := (hb4.block _ h3l).trans n3
    have b4 : Boxed w4 (w.heap.size + 1) 4 (.bool false) := (hb4.block _ s1.lt).trans s1
    have t4 := (hb4.block _ (by omega)).trans s0
    have hA4 : ArgsN w4 (fun g => W3.heap.size + 1 ≤ g ∧ g < w4.heap.size) A4 t.args := hO4.argsN
    clear hO4 c0 c1 s0 HW3 q0 q1
    refine (wpIn_wide (n := 3)).1 ?_
    refine range_lawD (F := Fence.wide) (n := 3) (w0 := w4) rfl rfl (gf := 53) (lb := #[.pointer (some ⟨W3.heap.size, 0, none⟩)]) rfl trivial (enters_of Tryd.func53 (by kernel_rfl) rfl)
      (fun m => places1_seq m W3.heap.size t A4 c4 (fun g => W3.heap.size + 1 ≤ g ∧ g < w4.heap.size) w4 hbx hf hA4 (fun g e => e.2) (by have := hgd.out; omega) hsz)
      (Below.refl _ _) (fun _ => rfl) (fun g e => e.2)
      (fun _ g => g < W3.heap.size) (fun pre Wx => BkI w w1.heap.size w4.heap.size (.int .i64 t.fn, .slice A t.args.length c) pre Wx) (fun _ _ _ => False)
      (bk_frame (by omega) (by omega)) (bk_bound (by omega)) (fun _ _ _ _ h _ => h.elim) ⟨n4, b4, t4, hB4, Nat.le_refl _⟩
      (fun pre x a' Wx => BkI w w1.heap.size w4.heap.size (.int .i64 t.fn, .slice A t.args.length c) pre Wx ∧ VisFxL w4.heap.size x Wx ∧ ∃ Bx, w4.heap.size ≤ Bx ∧ Wx.heap[Bx]? = some (.cells #[.int .i64 x.t.fn, .slice x.A' x.t.args.length x.c'] 27) ∧ a' = { tmps := #[.agg #[.int .i64 t.fn, .slice A t.args.length c], .pointer (some ⟨w.heap.size, 0, none⟩), .pointer (some ⟨w.heap.size + 1, 0, none⟩), .pointer (some ⟨w1.heap.size, 0, none⟩), .func (.func 53) #[] #[.pointer (some ⟨W3.heap.size, 0, none⟩)], .slice x.A x.pos.length x.c, .pointer (some ⟨Bx, 0, none⟩), undef, undef, undef, undef, .agg #[.int .i64 t.fn, .slice A t.args.length c], .bool false, undef, .agg #[.int .i64 t.fn, .slice A t.args.length c], .func (.func 53) #[] #[.pointer (some ⟨W3.heap.size, 0, none⟩)], .func (.func 53) #[] #[.pointer (some ⟨W3.heap.size, 0, none⟩)], .bool false, .func (.func 53) #[] #[.pointer (some ⟨W3.heap.size, 0, none⟩)], .slice x.A x.pos.length x.c, .agg #[.int .i64 x.t.fn, .slice x.A' x.t.args.length x.c'], undef, undef, undef, undef, undef, undef, undef, undef, undef, undef, undef, undef, undef, undef, undef, undef, undef, undef, undef, undef, undef, undef, undef, undef, undef, undef, undef, undef, undef, undef, undef, undef, undef, undef, undef, undef, undef, undef, undef, undef], defers := [] }) ?hAx ?assign ?body ?done ?stop
    case hAx =>
      rintro pre x a' Wx l r o ⟨h1, h2, Bx, hBx, hbx', rfl⟩ hl hr hn
      exact ⟨fun g e => e, h1.put hr (by omega), h2.put hr, Bx, hBx, put_block hbx' hr, rfl⟩
    case assign =>
      rintro l2 m2 pre x Wx K h1 _ hfx hK
      simp only [visEnc]
      gi_wp2
      have hBa : Below Wx.heap.size Wx (Wx.alloc (.cells #[.int .i64 x.t.fn, .slice x.A' x.t.args.length x.c'] 27)) := (Below.refl _ _).alloc (Nat.le_refl _) _
      exact hK _ _ (stp_alloc _ _ fun g e => Nat.lt_of_lt_of_le e.2 h1.big) ⟨h1.on hBa, hfx.on hBa, Wx.heap.size, h1.big, heap_alloc_new _ _, by simp⟩
    case body =>
      rintro l2 m2 pre x a' Wx hsp ⟨h1, h2, Bx, hBx, hbx', rfl⟩
      obtain ⟨hsub, hpl, hxs⟩ := key_sub hsp
      have hlt := pre_len hsp
      simp only [List.length_append, List.length_cons, List.length_nil] at hlt
      have hbg := h1.big
      have hnn : w1.heap.size ≠ Bx := by omega
      have hc := Boxed.cell h1.n
      have hfz := Boxed.frozen h1.n
      obtain ⟨a0, a1, _, _⟩ := cells_two h1.t
      have h1n : w.heap.size < w1.heap.size := by omega
      obtain ⟨Wy, hWy⟩ : ∃ Wy, Wx.setCell ⟨w1.heap.size, 0, none⟩ (.int .i64 ((pre.length : Int) + 1)) = Wy := ⟨_, rfl⟩
      have hy1 := h1.next (x := x) (by omega)
      have hy2 := h2.set (p := ⟨w1.heap.size, 0, none⟩) (v := .int .i64 ((pre.length : Int) + 1)) (by show w1.heap.size < w4.heap.size; omega)
      have hyb : (Wx.setCell ⟨w1.heap.size, 0, none⟩ (.int .i64 ((pre.length : Int) + 1))).heap[Bx]? = _ := (heap_setCell_other _ _ _ _ (Ne.symm hnn)).trans hbx'
      have hky : Keeps (· ≠ w1.heap.size) Wx (Wx.setCell ⟨w1.heap.size, 0, none⟩ (.int .i64 ((pre.length : Int) + 1))) := Keeps.set Wx ⟨w1.heap.size, 0, none⟩ _
      rw [hWy] at hy1 hy2 hyb hky
      have HWy := Lib.hid hWy
      have hBy := (Array.getElem?_eq_some_iff.1 hyb).1
      have hty := hy1.t
      have hwy := (Array.getElem?_eq_some_iff.1 hty).1
      obtain ⟨x0, x1, _, _⟩ := cells_two hyb
      obtain ⟨t0, t1, _, _⟩ := cells_two hty
      clear hWy hbx'
      have hyA := Lib.hid (HA.out.on hy1.blw)
      gi_wp2_with (first
        | ((refine ⟨trivial, (fun h => by cases h), ?_⟩); gi_at_call 27; rw [HWy.out]; refine (calls_round l2 _ (termAt_at hsub A c x.A x.c Wy hsz hf hyA.out hy2.fx.pos)).mono ?_; go_must (rintro e w5 ⟨A5, c5, rfl, _, hA5, hb5⟩; have z0 := cell_on hb5 hwy t0; have z1 := cell_on hb5 hwy t1; have u0 := cell_on hb5 hBy x0; have u1 := cell_on hb5 hBy x1; have hs5 := hb5.size; have hwy5 := Nat.lt_of_lt_of_le hwy hs5; have hBy5 := Nat.lt_of_lt_of_le hBy hs5; have HA5 := Lib.hid hA5; clear hA5))
        | ((refine ⟨trivial, (fun h => by cases h), ?_⟩); gi_at_call 29; obtain ⟨W6, hW6⟩ : ∃ W6, w5.alloc (.cells #[.int .i64 x.t.fn, .slice A5 x.t.args.length c5] 27) = W6 := ⟨_, rfl⟩; have hb56 : Below w5.heap.size w5 W6 := (by rw [← hW6]; exact (Below.refl _ _).alloc (Nat.le_refl _) _); have hq6 : W6.heap[w5.heap.size]? = some (.cells #[.int .i64 x.t.fn, .slice A5 x.t.args.length c5] 27) := (by rw [← hW6]; exact heap_alloc_new _ _); have hB6 := bl_step hb5 hb56; rw [hW6]; have HW6 := Lib.hid hW6; clear hW6; refine (calls_round l2 _ (termPut_at hsub A c x.A x.c x.A' x.c' W6 hsz hf hy2.fx.i64 (hyA.out.on hB6) (hy2.fx.pos.on hB6) (hy2.fx.args.on hB6))).mono ?_; go_must (rintro e w7 ⟨A7, c7, rfl, hA7, hb7⟩; have hB7 := bl_step hB6 hb7; have z0 := cell_on hB7 hwy t0; have z1 := cell_on hB7 hwy t1; have u0 := cell_on hB7 hBy x0; have u1 := cell_on hB7 hBy x1; have hq7 := (hb7.block _ (Array.getElem?_eq_some_iff.1 hq6).1).trans hq6; obtain ⟨v0, v1, _, _⟩ := cells_two hq7; have hs7 := hb7.size; have hl6 : w5.heap.size < W6.heap.size := (Array.getElem?_eq_some_iff.1 hq6).1; have hwy7 : w.heap.size < w7.heap.size := (by omega); have hBy7 : Bx < w7.heap.size := (by omega); have hly7 : w5.heap.size < w7.heap.size := (by omega); have HA7 := Lib.hid hA7; clear hA7))
        | ((refine ⟨trivial, (fun h => by cases h), ?_⟩); gi_at_call 15; obtain ⟨W8, hW8⟩ : ∃ W8, w7.alloc (.cells #[.int .i64 t.fn, .slice A7 t.args.length c7] 27) = W8 := ⟨_, rfl⟩; rw [hW8]; have hb78 : Below w7.heap.size w7 W8 := (by rw [← hW8]; exact (Below.refl _ _).alloc (Nat.le_refl _) _); have hq8 : W8.heap[w7.heap.size]? = some (.cells #[.int .i64 t.fn, .slice A7 t.args.length c7] 27) := (by rw [← hW8]; exact heap_alloc_new _ _); have hB8 := bl_step hB7 hb78; have HW8 := Lib.hid hW8; clear hW8; (with_reducible refine (calls_round l2 _ (same_self x.t x.A' A5 x.c' c5 W8 hy2.fx.i64 (hy2.fx.args.on hB8) (HA5.out.on (bl_step (bl_step hb56 hb7) hb78)))).mono ?_); go_must (rintro e w9 ⟨rfl, hb9⟩; have hB9 := bl_step hB8 hb9; have z0 := cell_on hB9 hwy t0; have z1 := cell_on hB9 hwy t1; have hq9 := (hb9.block _ (Array.getElem?_eq_some_iff.1 hq8).1).trans hq8; obtain ⟨v0, v1, _, _⟩ := cells_two hq9))
        | ((refine ⟨trivial, (fun h => by cases h), ?_⟩); gi_at_call 15; (with_reducible refine (calls_round l2 _ (same_self t A7 A c7 c w9 hf (HA7.out.on (bl_step hb78 hb9)) (hyA.out.on hB9))).mono ?_); go_must (rintro e w10 ⟨rfl, hb10⟩; have hB10 := bl_step hB9 hb10))
        | fail)
      have hys := hky.size
      refine ⟨hy1.on hB10, ⟨(hky.mono fun g e => ?_).trans ((Keeps.of_below hB10).mono fun g e => ?_), fun g e => .inl e⟩⟩
      · show g ≠ w1.heap.size
        rcases e with e | e
        · have := e.1; omega
        · have e' : ¬ g < W3.heap.size := e.2; omega
      · show g < Wy.heap.size
        rcases e with e | e
        · have := e.2; omega
        · have := e.1; omega
    case done =>
      rintro D ys Wd hD hS h1 hnD hK
      have hl := congrArg List.length hS
      rw [vis_len, List.length_map] at hl
      have nD := h1.n
      rw [hl] at nD
      have hDl : D < Wd.heap.size := (Array.getElem?_eq_some_iff.1 hK).1
      have hSd : ∀ w', Below Wd.heap.size Wd w' → w'.cell? ⟨w1.heap.size, 0, none⟩ = some (.int .i64 (t.size : Int)) ∧ w'.cell? ⟨w.heap.size, 0, none⟩ = some (.int .i64 t.fn) ∧ w'.cell? ⟨w.heap.size, 1, none⟩ = some (.slice A t.args.length c) := by
        intro w' h
        obtain ⟨x0, x1, _, _⟩ := cells_two ((h.block _ (Array.getElem?_eq_some_iff.1 h1.t).1).trans h1.t)
        exact ⟨Boxed.cell ((h.block _ nD.lt).trans nD), x0, x1⟩
      have hSs : ∀ (w' : World) (v : Value), Below Wd.heap.size Wd w' → (w'.setCell ⟨w.heap.size + 1, 0, none⟩ v).cell? ⟨w1.heap.size, 0, none⟩ = some (.int .i64 (t.size : Int)) ∧ (w'.setCell ⟨w.heap.size + 1, 0, none⟩ v).cell? ⟨w.heap.size, 0, none⟩ = some (.int .i64 t.fn) ∧ (w'.setCell ⟨w.heap.size + 1, 0, none⟩ v).cell? ⟨w.heap.size, 1, none⟩ = some (.slice A t.args.length c) := by
        intro w' v h
        obtain ⟨a, b, c'⟩ := hSd w' h
        have ne : ∀ {g o : Nat}, g ≠ w.heap.size + 1 → (w'.setCell ⟨w.heap.size + 1, 0, none⟩ v).cell? ⟨g, o, none⟩ = w'.cell? ⟨g, o, none⟩ := fun e => cell_of_heap (heap_setCell_other _ _ _ _ e)
        exact ⟨(ne (by omega)).trans a, (ne (by omega)).trans b, (ne (by omega)).trans c'⟩
      obtain ⟨n0, x0, x1⟩ := hSd Wd (Below.refl _ _)
      have hAD : Hid (Args Wd.drew Wd.drew.heap.size A t.args) := (HA.out.on h1.blw).drewN 1
      have HTD := Lib.hid (tru_below HT0.out h1.blw)
      have HKD := Lib.hid hK
      have hbD := h1.blw
      have hrD := h1.r
      clear hS hl nD hK h1
      go_wp2
      go_region_held3 (fun w' => w'.cell? ⟨w1.heap.size, 0, none⟩ = some (.int .i64 (t.size : Int)) ∧ w'.cell? ⟨w.heap.size, 0, none⟩ = some (.int .i64 t.fn) ∧ w'.cell? ⟨w.heap.size, 1, none⟩ = some (.slice A t.args.length c))
        (first | exact ⟨n0, x0, x1⟩ | exact hSs _ _ hB6 | exact hSd _ hB6 | exact hSd _ hB5 | fail)
        (first
          | (go_at_call 19; (with_reducible refine (Size_any t A c Wd.drew hf hAD.out (by have := hgd.out; omega) (by omega)).mono ?_); go_must (rintro e w5 ⟨rfl, hb5⟩; have hB5 : Below Wd.heap.size Wd w5 := ⟨hb5.os, hb5.tape, hb5.output, hb5.size, hb5.block⟩))
          | (go_at_call 13; refine (wakes_any w5 (tru_below HTD.out hB5)).mono ?_; go_must (rintro e w6 ⟨rfl, hb6⟩; have hB6 := bl_step hB5 hb6; have r6 := (hB6.block _ hrD.lt).trans hrD; have hc6 := Boxed.cell r6; have hf6 := Boxed.frozen r6))
          | fail)
      go_wp2
      have hKs : (w6.setCell ⟨w.heap.size + 1, 0, none⟩ (.bool true)).heap[D]? = some (.deferred (some [])) := (heap_setCell_other _ _ _ _ (by show D ≠ w.heap.size + 1; omega)).trans ((hB6.block _ hDl).trans HKD.out)
      have hr' := cell_kept (Boxed.set (.bool true) r6).cell (grownBy_putObj' _ D (.deferred none)) (fun r e => by cases e; exact ⟨_, hKs, rfl⟩)
      refine ⟨by simp, .inl ⟨_, _, rfl, run_takeDeferred hKs, ?_⟩⟩
      exact ⟨.bool true, by simp [results, Tryd.results6, go_sem, hr'], rfl, ((hbD.trans (hB6.mono hbD.size)).setCell (by show _ ≤ w.heap.size + 1; omega) _).trans (belowK_b (w := w) (Nat.le_refl _) _ D _ _ (by omega) hKs rfl rfl)⟩
    case stop => exact fun _ _ _ _ _ _ h _ => h.elim
end Go.Proofs.YtkgikjjngbifjaaDoor
