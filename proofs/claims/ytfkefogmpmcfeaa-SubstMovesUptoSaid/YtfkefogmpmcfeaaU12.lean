/- putter and Apply. -/
import Derived.Test.YtfkefogmpmcfeaaU11
namespace Go.Proofs.Ytfkefogmpmcfeaa
open Go.RowKit Go.Shelf
set_option maxRecDepth 100000

set_option maxHeartbeats 1000000 in
theorem putter1_any (l : List Bd) (A : Option Addr) (c bs B0 : Nat) (t : Tm) (hsz : t.size ≤ 4398046511104) (At : Option Addr) (ct bx : Nat) (W : World) (hB0 : B0 ≤ W.heap.size) (hb : Boxed W bx 83 (.func (.func 98) #[] #[.pointer (some ⟨bs, 0, none⟩)])) (hs : PutC l A c bs B0 W) (hf : I64 t.fn) (hA : Args W W.heap.size At t.args) :
    Calls Try.prog 104 #[.agg #[.int .i64 t.fn, .slice At t.args.length ct], .pointer (some ⟨bx, 0, none⟩)] W (NewPost (appT (bdT l) t) W) := by
  obtain ⟨q0, q1⟩ := heap2 W (.cells #[.int .i64 t.fn, .slice At t.args.length ct] 31) (.cells #[.int .i64 0, .slice none 0 0] 31)
  obtain ⟨W2, hW2⟩ : ∃ W2, ((W.alloc (.cells #[.int .i64 t.fn, .slice At t.args.length ct] 31)).alloc (.cells #[.int .i64 0, .slice none 0 0] 31)) = W2 := ⟨_, rfl⟩
  have hB : Below W.heap.size W W2 := by rw [← hW2]; exact ((Below.refl _ _).alloc (Nat.le_refl _) _).alloc (by simp) _
  rw [hW2] at q0 q1
  have hWs : W.heap.size + 1 < W2.heap.size := (Array.getElem?_eq_some_iff.1 q1).1
  have hcb := Boxed.cell (show Boxed W2 bx _ _ from (hB.block _ hb.lt).trans hb)
  have hrec' := Lib.hid (put_any l A c bs B0 t hsz At ct W2 (by omega) (hs.keep ((Keeps.of_below hB).mono fun g e => by show g < W.heap.size; omega)) hf (hA.on hB))
  have HW := Lib.hid hW2
  obtain ⟨a0, a1, _, _⟩ := cells_two q0
  clear hW2 hA hs
  go_enter Try.func104, Try.ntmps104
  go_upto_region 1 with fail
  rw [HW.out]
  go_wp2_with (first
    | (go_at_call 65; refine hrec'.out.mono ?_; go_must (rintro e w3 ⟨A3, c3, rfl, hi3, hO3, hk3⟩; have y3 := (hk3.block _ hWs).trans q1; obtain ⟨b0, b1, g0, g1⟩ := cells_two y3; have hO3 := Lib.hid hO3))
    | fail)
  obtain ⟨z0, z1⟩ := set2_two (u := .int .i64 (appT (bdT l) t).fn) (v := .slice A3 (appT (bdT l) t).args.length c3) y3
  have p0 := (cells_two z0).1
  have p1 := (cells_two z1).2.1
  have hoth : ∀ g, g ≠ W.heap.size + 1 → ((w3.setCell ⟨W.heap.size + 1, 0, none⟩ (.int .i64 (appT (bdT l) t).fn)).setCell ⟨W.heap.size + 1, 1, none⟩ (.slice A3 (appT (bdT l) t).args.length c3)).heap[g]? = w3.heap[g]? := fun g e => (heap_setCell_other _ _ _ _ e).trans (heap_setCell_other _ _ _ _ e)
  refine bodyPost_ret (v := .agg #[.int .i64 (appT (bdT l) t).fn, .slice A3 (appT (bdT l) t).args.length c3]) (by simp [results, Try.results104, go_sem, p0, p1]) rfl ⟨A3, c3, rfl, hi3, ?_, ?_⟩
  · exact OwnT.wide (lo := W2.heap.size) (hi := w3.heap.size) (hO3.out.keep fun g h1 _ => hoth g (by omega)) (by omega) (by simp)
  · exact ((hB.trans (hk3.mono (by omega))).setCell (by show _ ≤ W.heap.size + 1; omega) _).setCell (by show _ ≤ W.heap.size + 1; omega) _

@[local go_sem] theorem run_store_func {P : Program} {w : World} {a : Addr} {m : Mode} (f : Fn) (ts cs : Array Value) : (store a (.func f ts cs) m).run P w = stored P w a (.func f ts cs) m := run_store P w a _ m rfl

theorem putter_any (l : List Bd) (A : Option Addr) (c : Nat) (w : World) (hl : l.length ≤ 9223372036854775806) (hA : Binds w (· < w.heap.size) A l) (hr : Rise l) :
    Calls Try.prog 63 #[.slice A l.length c] w fun e w' => ∃ n, e = .returned (.func (.func 104) #[] #[.pointer (some ⟨n, 0, none⟩)]) ∧ w.heap.size ≤ n ∧ Boxed w' n 83 (.func (.func 98) #[] #[.pointer (some ⟨w.heap.size, 0, none⟩)]) ∧ Boxed w' w.heap.size 23 (.slice A l.length c) ∧ Below w.heap.size w w' := by
  have H := Lib.hid (finder_any l A c w hl hA hr)
  clear hA hr
  go_enter Try.func63, Try.ntmps63
  go_wp2_with (first
    | (go_at_call 53; refine H.out.mono ?_; go_must (rintro e w1 ⟨rfl, hbx, hb1⟩; have hbx := Lib.hid hbx))
    | fail)
  go_ret
  exact ⟨w1.heap.size, rfl, hb1.size, heap_alloc_new _ _, alloc_old hbx.out, hb1.alloc hb1.size _⟩

set_option maxHeartbeats 1000000 in
theorem apply_any (l : List Bd) (A : Option Addr) (c : Nat) (t : Tm) (At : Option Addr) (ct : Nat) (w : World) (hsz : t.size ≤ 4398046511104) (hl : l.length ≤ 4611686018427387904) (hA : Binds w (· < w.heap.size) A l) (hr : Rise l) (hsm : ∀ x ∈ l, x.t.size ≤ 4398046511104) (hf : I64 t.fn) (hT : Args w w.heap.size At t.args) :
    Calls Try.prog 27 #[.slice A l.length c, .agg #[.int .i64 t.fn, .slice At t.args.length ct]] w (NewPost (appT (bdT l) t) w) := by
  obtain ⟨q0, q1⟩ := heap2 w (.cells #[.int .i64 t.fn, .slice At t.args.length ct] 31) (.cells #[.int .i64 0, .slice none 0 0] 31)
  obtain ⟨W, hW⟩ : ∃ W, ((w.alloc (.cells #[.int .i64 t.fn, .slice At t.args.length ct] 31)).alloc (.cells #[.int .i64 0, .slice none 0 0] 31)) = W := ⟨_, rfl⟩
  have hB : Below w.heap.size w W := by rw [← hW]; exact ((Below.refl _ _).alloc (Nat.le_refl _) _).alloc (by simp) _
  rw [hW] at q0 q1
  have hWs : w.heap.size + 1 < W.heap.size := (Array.getElem?_eq_some_iff.1 q1).1
  have hAW : Binds W (· < W.heap.size) A l := (hA.keep fun g e => hB.block g e).wide fun g e => Nat.lt_of_lt_of_le e hB.size
  have hAd : Binds W.drew (· < W.drew.heap.size) A l := hAW.keep fun _ _ => rfl
  have hfin := Lib.hid (finder_any l A c W.drew (by omega) hAd hr)
  have hput : ∀ w1 : World, Below W.heap.size W w1 → Boxed w1 W.heap.size 23 (.slice A l.length c) → Calls Try.prog 65 #[.agg #[.int .i64 t.fn, .slice At t.args.length ct], .func (.func 98) #[] #[.pointer (some ⟨W.heap.size, 0, none⟩)]] w1 (NewPost (appT (bdT l) t) w1) := fun w1 hb hx =>
    put_any l A c W.heap.size w1.heap.size t hsz At ct w1 (Nat.le_refl _) ⟨hl, (hAW.keep fun g e => hb.block g e).wide fun g e => Nat.lt_of_lt_of_le e hb.size, hr, hsm, hx.lt, hx⟩ hf ((hT.on hB).on hb)
  have hput := Lib.hid hput
  have HW := Lib.hid hW
  obtain ⟨a0, a1, _, _⟩ := cells_two q0
  have hSS : ∀ w', Below (w.heap.size + 1) W w' → w'.cell? ⟨w.heap.size, 0, none⟩ = some (.int .i64 t.fn) ∧ w'.cell? ⟨w.heap.size, 1, none⟩ = some (.slice At t.args.length ct) := fun w' hb => ⟨cell_on hb (by omega) a0, cell_on hb (by omega) a1⟩
  clear hW hA hAW hAd hT
  go_enter Try.func27, Try.ntmps27
  go_upto_region 1 with fail
  rw [HW.out]
  go_region_held3 (fun w' => w'.cell? ⟨w.heap.size, 0, none⟩ = some (.int .i64 t.fn) ∧ w'.cell? ⟨w.heap.size, 1, none⟩ = some (.slice At t.args.length ct))
    (first | exact ⟨a0, a1⟩ | exact hSS _ (hB3.mono (by omega)) | exact hSS _ (hB1.mono (by omega)) | exact hSS _ (((hB3.mono (by omega)).setCell (by show w.heap.size + 1 ≤ w.heap.size + 1; omega) _).setCell (by show w.heap.size + 1 ≤ w.heap.size + 1; omega) _) | fail)
    (first
      | (go_at_call 53; refine hfin.out.mono ?_; go_must (rintro e w1 ⟨rfl, hbx, hb1⟩; have hB1 : Below W.heap.size W w1 := ⟨hb1.os, hb1.tape, hb1.output, hb1.size, hb1.block⟩; have hbx := Lib.hid hbx))
      | (go_at_call 65; refine (hput.out w1 hB1 hbx.out).mono ?_; go_must (rintro e w3 ⟨A3, c3, rfl, hi3, hO3, hk3⟩; have hB3 := hB1.trans (hk3.mono hB1.size); have y3 := (hB3.block _ hWs).trans q1; obtain ⟨d0, d1, g0, g1⟩ := cells_two y3; have hO3 := Lib.hid hO3))
      | fail)
  go_wp2
  obtain ⟨z0, z1⟩ := set2_two (u := .int .i64 (appT (bdT l) t).fn) (v := .slice A3 (appT (bdT l) t).args.length c3) y3
  have k0 := (cells_two z0).1
  have k1 := (cells_two z1).2.1
  exact bodyPost_ret (v := .agg #[.int .i64 (appT (bdT l) t).fn, .slice A3 (appT (bdT l) t).args.length c3]) (by simp [results, Try.results27, go_sem, k0, k1]) rfl (put_fin (hB.trans (hB1.mono hB.size)) hk3 hO3.out hi3 (by omega) (Nat.lt_of_lt_of_le hWs hB1.size))
end Go.Proofs.Ytfkefogmpmcfeaa
