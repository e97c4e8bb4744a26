/- finder$1: what a variable is bound to. -/
import Derived.Test.YtfkefogmpmcfeaaU8
namespace Go.Proofs.Ytfkefogmpmcfeaa
open Go.RowKit Go.Shelf
set_option maxRecDepth 100000

def FinderPost (l : List Bd) (v : Int) (w : World) (e : Ending) (w' : World) : Prop := Below w.heap.size w w' ∧
  match findB l v with
  | none => e = .returned (.tuple #[.agg #[.int .i64 0, .slice none 0 0], .bool false])
  | some x => ∃ A' c', e = .returned (.tuple #[.agg #[.int .i64 x.t.fn, .slice A' x.t.args.length c'], .bool true]) ∧ I64 x.t.fn ∧ Args w w.heap.size A' x.t.args

theorem alloc_old {W : World} {b : Nat} {x o : Obj} (h : W.heap[b]? = some x) : (W.alloc o).heap[b]? = some x :=
  (((Below.refl W.heap.size W).alloc (Nat.le_refl _) o).block _ (Array.getElem?_eq_some_iff.1 h).1).trans h

set_option maxHeartbeats 2000000 in
theorem finder1_any (l : List Bd) (v : Int) (A : Option Addr) (c bs : Nat) (w : World) (hl : l.length ≤ 4611686018427387904) (hA : Binds w (· < w.heap.size) A l) (hr : Rise l) (hbs : Boxed w bs 23 (.slice A l.length c)) :
    Calls Try.prog 98 #[.int .i64 v, .pointer (some ⟨bs, 0, none⟩)] w (FinderPost l v w) := by
  obtain ⟨W, hW⟩ : ∃ W, (w.alloc (.cells #[.int .i64 v] 3)).alloc (.cells #[.int .i64 0, .slice none 0 0] 31) = W := ⟨_, rfl⟩
  have hB : Below w.heap.size w W := by rw [← hW]; exact ((Below.refl _ _).alloc (Nat.le_refl _) _).alloc (by simp) _
  have qv : Boxed W w.heap.size 3 (.int .i64 v) := by
    have h1 := heap_alloc_new w (.cells #[.int .i64 v] 3)
    have h2 := ((Below.refl (w.heap.size + 1) (w.alloc (.cells #[.int .i64 v] 3))).alloc (by simp) (.cells #[.int .i64 0, .slice none 0 0] 31)).block w.heap.size (by omega)
    rw [← hW]
    exact h2.trans h1
  have qr : W.heap[w.heap.size + 1]? = some (.cells #[.int .i64 0, .slice none 0 0] 31) := by
    have h1 := heap_alloc_new (w.alloc (.cells #[.int .i64 v] 3)) (.cells #[.int .i64 0, .slice none 0 0] 31)
    have h2 : (w.alloc (.cells #[.int .i64 v] 3)).heap.size = w.heap.size + 1 := by simp
    rw [← hW]
    rwa [h2] at h1
  have hWs : w.heap.size + 1 < W.heap.size := (Array.getElem?_eq_some_iff.1 qr).1
  have hcb := Boxed.cell (show Boxed W bs _ _ from (hB.block _ hbs.lt).trans hbs)
  have H := Lib.hid (halve_any l v A c w.heap.size (· < w.heap.size) W hl (fun g e => Nat.lt_of_lt_of_le e hB.size) (hA.keep fun g e => hB.block g e) hr qv)
  have HW := Lib.hid hW
  clear hW hA hr
  unfold FinderPost
  rcases hfo : findB l v with _ | x
  · have hfo := Lib.hid hfo
    go_enter Try.func98, Try.ntmps98
    go_upto_region 1 with fail
    rw [HW.out]
    go_wp2_with (first
      | (go_at_call 99; refine H.out.mono ?_; go_must (rintro e w1 ⟨hb1, he⟩; rw [hfo.out] at he; obtain rfl := he; have q2 := (hb1.block _ hWs).trans qr; have hq2 := (Array.getElem?_eq_some_iff.1 q2).1; have zq := heap_alloc_new w1 (Obj.cells #[.int .i64 0, .int .i64 0, .slice none 0 0] 81); obtain ⟨p0, p1, p2, _, _, _⟩ := cells_three zq; have r2 := alloc_old (o := (Obj.cells #[.int .i64 0, .int .i64 0, .slice none 0 0] 81)) q2; obtain ⟨d0, d1, fd0, fd1⟩ := cells_two r2; obtain ⟨m0, m1⟩ := set2_two (u := .int .i64 0) (v := .slice none 0 0) q2; obtain ⟨d2, d3, fd2, fd3⟩ := cells_two (alloc_old (o := (Obj.cells #[.int .i64 0, .int .i64 0, .slice none 0 0] 81)) m0); have r4 := alloc_old (o := (Obj.cells #[.int .i64 0, .int .i64 0, .slice none 0 0] 81)) m1; have hb1w := hB.trans (hb1.mono hB.size); have hs1 := hb1w.size))
      | fail)
    obtain ⟨k0, k1, _, _⟩ := cells_two r4
    refine bodyPost_ret (v := .tuple #[.agg #[.int .i64 0, .slice none 0 0], .bool false]) (by simp [results, Try.results98, go_sem, k0, k1]) rfl ⟨((hb1w.setCell (by show _ ≤ w.heap.size + 1; omega) _).setCell (by show _ ≤ w.heap.size + 1; omega) _).alloc (by simp; omega) _, ?_⟩
    rfl
  · have hfo := Lib.hid hfo
    go_enter Try.func98, Try.ntmps98
    go_upto_region 1 with fail
    rw [HW.out]
    go_wp2_with (first
      | (go_at_call 99; refine H.out.mono ?_; go_must (rintro e w1 ⟨hb1, he⟩; rw [hfo.out] at he; obtain ⟨A', c', rfl, _, hit, hsub⟩ := he; have hit := Lib.hid hit; have hsub := Lib.hid hsub; have q2 := (hb1.block _ hWs).trans qr; have hq2 := (Array.getElem?_eq_some_iff.1 q2).1; have zq := heap_alloc_new w1 (Obj.cells #[.int .i64 x.v, .int .i64 x.t.fn, .slice A' x.t.args.length c'] 81); obtain ⟨p0, p1, p2, _, _, _⟩ := cells_three zq; have r2 := alloc_old (o := (Obj.cells #[.int .i64 x.v, .int .i64 x.t.fn, .slice A' x.t.args.length c'] 81)) q2; obtain ⟨d0, d1, fd0, fd1⟩ := cells_two r2; obtain ⟨m0, m1⟩ := set2_two (u := .int .i64 x.t.fn) (v := .slice A' x.t.args.length c') q2; obtain ⟨d2, d3, fd2, fd3⟩ := cells_two (alloc_old (o := (Obj.cells #[.int .i64 x.v, .int .i64 x.t.fn, .slice A' x.t.args.length c'] 81)) m0); have r4 := alloc_old (o := (Obj.cells #[.int .i64 x.v, .int .i64 x.t.fn, .slice A' x.t.args.length c'] 81)) m1; have hb1w := hB.trans (hb1.mono hB.size); have hs1 := hb1w.size))
      | fail)
    obtain ⟨k0, k1, _, _⟩ := cells_two r4
    refine bodyPost_ret (v := .tuple #[.agg #[.int .i64 x.t.fn, .slice A' x.t.args.length c'], .bool true]) (by simp [results, Try.results98, go_sem, k0, k1]) rfl ⟨((hb1w.setCell (by show _ ≤ w.heap.size + 1; omega) _).setCell (by show _ ≤ w.heap.size + 1; omega) _).alloc (by simp; omega) _, ?_⟩
    exact ⟨A', c', rfl, hit.out, (hsub.out.keep fun g e => (hB.block g e).symm).args fun g e => e⟩
end Go.Proofs.Ytfkefogmpmcfeaa
