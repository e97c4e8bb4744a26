/- TermBack. -/
import Derived.Test.YtimgomoafeaoiaaDoorB4
import Derived.Test.YtimgomoafeaoiaaDoorO2
namespace Go.Proofs.YtimgomoafeaoiaaDoor
open Go.RowKit Go.Shelf
attribute [local go_sem] Oper.semAt_some
set_option maxRecDepth 100000

theorem ref3Size_at (t : Tm) (A : Option Addr) (c : Nat) (w : World) (hsz : t.size ≤ 4611686018427387904) (hf : I64 t.fn) (hA : Args w w.heap.size A t.args) :
    Calls Tryd.prog 14 #[.agg #[.int .i64 t.fn, .slice A t.args.length c]] w fun e w' => e = .returned (.int .i64 (t.size : Int)) ∧ Below w.heap.size w w' := refSize_any t hsz A c w hf hA
theorem ref3Depth_at (t : Tm) (A : Option Addr) (c : Nat) (w : World) (hsz : t.depth ≤ 4611686018427387904) (hf : I64 t.fn) (hA : Args w w.heap.size A t.args) :
    Calls Tryd.prog 15 #[.agg #[.int .i64 t.fn, .slice A t.args.length c]] w fun e w' => e = .returned (.int .i64 (t.depth : Int)) ∧ Below w.heap.size w w' := refDepth_any t hsz A c w hf hA

set_option maxHeartbeats 1000000 in
theorem great_any (t : Tm) (A : Option Addr) (c : Nat) (w : World) (hsz : t.size ≤ 4611686018427387904) (hf : I64 t.fn) (hA : Args w w.heap.size A t.args) :
    Calls Tryd.prog 4 #[.agg #[.int .i64 t.fn, .slice A t.args.length c]] w fun e w' => e = .returned (.bool (decide (1000 < t.size ∨ 200 < t.depth))) ∧ Below w.heap.size w w' := by
  obtain ⟨W, hW⟩ : ∃ W, w.alloc (.cells #[.int .i64 t.fn, .slice A t.args.length c] 24) = W := ⟨_, rfl⟩
  obtain ⟨hB, hlt, hS⟩ := box_term hW
  have hds := depth_le_size t
  have HW := Lib.hid hW
  have H1 := Lib.hid (hA.on hB)
  clear hW hA
  by_cases h1 : 1000 < t.size
  · have hr := Lib.hid (decide_eq_true (show 1000 < t.size ∨ 200 < t.depth from .inl h1))
    go_enter Tryd.func4, Tryd.ntmps4
    go_wp2_with (first
      | (go_at_call 14; rw [HW.out]; refine (ref3Size_at t A c W hsz hf H1.out).mono ?_; go_must (rintro e w1 ⟨rfl, hb1⟩))
      | fail)
    all_goals
      go_ret
      exact ⟨ret_bool rfl, hB.trans (hb1.mono hB.size)⟩
  · have hr : decide (1000 < t.size ∨ 200 < t.depth) = decide (200 < t.depth) := by simp [h1]
    have hr := Lib.hid hr
    by_cases h2 : 200 < t.depth
    · have hr2 := Lib.hid (decide_eq_true h2)
      go_enter Tryd.func4, Tryd.ntmps4
      go_wp2_with (first
        | (go_at_call 14; rw [HW.out]; refine (ref3Size_at t A c W hsz hf H1.out).mono ?_; go_must (rintro e w1 ⟨rfl, hb1⟩; obtain ⟨x0, x1⟩ := hS _ hb1))
        | (go_at_call 15; refine (ref3Depth_at t A c w1 (by omega) hf (H1.out.on hb1)).mono ?_; go_must (rintro e w2 ⟨rfl, hb2⟩; have hB2 := bl_step hb1 hb2))
        | fail)
      go_ret
      exact ⟨ret_bool (by simp [h1, h2]; omega), hB.trans (hB2.mono hB.size)⟩
    · have hr2 := Lib.hid (decide_eq_false h2)
      go_enter Tryd.func4, Tryd.ntmps4
      go_wp2_with (first
        | (go_at_call 14; rw [HW.out]; refine (ref3Size_at t A c W hsz hf H1.out).mono ?_; go_must (rintro e w1 ⟨rfl, hb1⟩; obtain ⟨x0, x1⟩ := hS _ hb1))
        | (go_at_call 15; refine (ref3Depth_at t A c w1 (by omega) hf (H1.out.on hb1)).mono ?_; go_must (rintro e w2 ⟨rfl, hb2⟩; have hB2 := bl_step hb1 hb2))
        | fail)
      go_ret
      exact ⟨ret_bool (by simp [h1, h2]; omega), hB.trans (hB2.mono hB.size)⟩

theorem great_true {t : Tm} (h : 1000 < t.size ∨ 200 < t.depth) (A : Option Addr) (c : Nat) (w : World) (hsz : t.size ≤ 4611686018427387904) (hf : I64 t.fn) (hA : Args w w.heap.size A t.args) :
    Calls Tryd.prog 4 #[.agg #[.int .i64 t.fn, .slice A t.args.length c]] w fun e w' => e = .returned (.bool true) ∧ Below w.heap.size w w' := by
  have := great_any t A c w hsz hf hA
  rwa [decide_eq_true h] at this
theorem great_false {t : Tm} (h : ¬ (1000 < t.size ∨ 200 < t.depth)) (A : Option Addr) (c : Nat) (w : World) (hsz : t.size ≤ 4611686018427387904) (hf : I64 t.fn) (hA : Args w w.heap.size A t.args) :
    Calls Tryd.prog 4 #[.agg #[.int .i64 t.fn, .slice A t.args.length c]] w fun e w' => e = .returned (.bool false) ∧ Below w.heap.size w w' := by
  have := great_any t A c w hsz hf hA
  rwa [decide_eq_false h] at this

/-- What TermBack keeps through its range: the count, the result's box, the term's box, all that was. -/
structure BkI (w : World) (n big : Nat) (T : Value × Value) (pre : List Vis) (Wx : World) : Prop where
  n : Boxed Wx n 3 (.int .i64 (pre.length : Int))
  r : Boxed Wx (w.heap.size + 1) 4 (.bool false)
  t : Wx.heap[w.heap.size]? = some (.cells #[T.1, T.2] 24)
  blw : Below w.heap.size w Wx
  big : big ≤ Wx.heap.size
theorem bk_frame {w : World} {n big b : Nat} {T : Value × Value} (hn : n < b) (hw : w.heap.size + 1 < b) : FrameC (fun _ g => g < b) (BkI w n big T) := by
  intro s A B h hk
  exact ⟨⟨(hk.block _ (by show _ < _; omega)).trans h.n, (hk.block _ (by show _ < _; omega)).trans h.r, (hk.block _ (by show _ < _; omega)).trans h.t, h.blw.trans (hk.below fun g e => by show g < _; omega), Nat.le_trans h.big hk.size⟩, fun g e => e⟩
theorem bk_bound {w : World} {n big b : Nat} {T : Value × Value} (hb : b ≤ big) : BoundC (fun _ g => g < b) (BkI w n big T) := by
  intro s A h g e
  have := h.big
  have e' : g < b := e
  omega
theorem BkI.put {w Wx : World} {n big l : Nat} {T : Value × Value} {pre : List Vis} {r : Loop} {o : Obj} (h : BkI w n big T pre Wx) (hl : Wx.heap[l]? = some (.loop r)) (hn : w.heap.size ≤ l) : BkI w n big T pre (Wx.putObj l o) :=
  ⟨put_block h.n hl, put_block h.r hl, put_block h.t hl, h.blw.trans ((Keeps.put Wx l o).below fun g e => by show g ≠ l; omega), by simpa using h.big⟩
theorem BkI.on {w Wx Wy : World} {n big : Nat} {T : Value × Value} {pre : List Vis} (h : BkI w n big T pre Wx) (hb : Below Wx.heap.size Wx Wy) : BkI w n big T pre Wy :=
  ⟨(hb.block _ h.n.lt).trans h.n, (hb.block _ h.r.lt).trans h.r, (hb.block _ (Array.getElem?_eq_some_iff.1 h.t).1).trans h.t, h.blw.trans (hb.mono h.blw.size), Nat.le_trans h.big hb.size⟩
theorem BkI.next {w Wx : World} {n big : Nat} {T : Value × Value} {pre : List Vis} {x : Vis} (h : BkI w n big T pre Wx) (hn : w.heap.size + 1 < n) : BkI w n big T (pre ++ [x]) (Wx.setCell ⟨n, 0, none⟩ (.int .i64 ((pre.length : Int) + 1))) := by
  have hk : ∀ g, g ≠ n → (Wx.setCell ⟨n, 0, none⟩ (.int .i64 ((pre.length : Int) + 1))).heap[g]? = Wx.heap[g]? := fun g e => heap_setCell_other _ _ _ _ e
  refine ⟨?_, (hk _ (by omega)).trans h.r, (hk _ (by omega)).trans h.t, h.blw.setCell (by show _ ≤ n; omega) _, by simpa using h.big⟩
  rw [List.length_append, show ((pre.length + [x].length : Nat) : Int) = (pre.length : Int) + 1 from by simp]
  exact Boxed.set _ h.n