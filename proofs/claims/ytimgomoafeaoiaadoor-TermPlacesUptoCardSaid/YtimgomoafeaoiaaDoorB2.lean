/- Put. -/
import Derived.Test.YtimgomoafeaoiaaDoorB1
import Derived.Deep.DeepCutAuto
namespace Go.Proofs.YtimgomoafeaoiaaDoor
open Go.RowKit
set_option maxRecDepth 100000

def PutPost (t : Tm) (p : List Int) (s : Tm) (w : World) (e : Ending) (w' : World) : Prop := Below w.heap.size w w' ∧
  match subT t p with
  | none => e = .returned (.tuple #[.agg #[.int .i64 0, .slice none 0 0], .bool false])
  | some _ => ∃ A' c', e = .returned (.tuple #[.agg #[.int .i64 (putT t p s).fn, .slice A' (putT t p s).args.length c'], .bool true]) ∧ I64 (putT t p s).fn ∧ Args w' w'.heap.size A' (putT t p s).args

theorem put_fr {w w' : World} {p : List Int} {h b' o' : Nat} {t : Tm} {A : Option Addr} {c lo hi : Nat} (hP : PathA w.drew p h 0 t b' o') (hc : w.drew.cell? ⟨h, 0 + 1, none⟩ = some (.slice A t.args.length c)) (hO : OwnT w.drew lo hi A t.args)
    (hfz : ∀ b, b = h → w.frozen? ⟨b, 0, none⟩ = false ∧ w.frozen? ⟨b, 1, none⟩ = false) (hk : w'.heap[b']? = w.heap[b']?) : w'.frozen? ⟨b', o', none⟩ = false ∧ w'.frozen? ⟨b', o' + 1, none⟩ = false := by
  rw [frozen_of_heap hk, frozen_of_heap hk]
  rcases path_in hP hc hO with ⟨_, rfl, rfl⟩ | ⟨_, _, h1, h2⟩
  · exact hfz _ rfl
  · exact ⟨h1, h2⟩

theorem put_ne {w : World} {p : List Int} {h b' o' : Nat} {t : Tm} {A : Option Addr} {c lo hi : Nat} (hP : PathA w p h 0 t b' o') (hc : w.cell? ⟨h, 0 + 1, none⟩ = some (.slice A t.args.length c)) (hO : OwnT w lo hi A t.args) (hlo : h + 2 < lo) : h ≤ b' ∧ h + 1 ≠ b' ∧ h + 1 + 1 ≠ b' := by
  rcases path_in hP hc hO with ⟨_, rfl, rfl⟩ | ⟨_, _, h1, h2⟩ <;> omega

set_option maxHeartbeats 2000000 in
theorem termPut_any (t : Tm) (p : List Int) (s : Tm) (A : Option Addr) (c : Nat) (Ap : Option Addr) (cp : Nat) (As : Option Addr) (cs : Nat) (w : World) (hsz : t.size ≤ 4398046511104) (hss : s.size ≤ 4398046511104) (hi : I64 t.fn) (his : I64 s.fn) (hA : Args w w.heap.size A t.args) (hp : Ints w w.heap.size Ap p) (hAs : Args w w.heap.size As s.args) :
    Calls Tryd.prog 8 #[.agg #[.int .i64 t.fn, .slice A t.args.length c], .slice Ap p.length cp, .agg #[.int .i64 s.fn, .slice As s.args.length cs]] w (PutPost t p s w) := by
  obtain ⟨q0, q1, q2⟩ := heap3 w (.cells #[.int .i64 t.fn, .slice A t.args.length c] 24) (.cells #[.int .i64 s.fn, .slice As s.args.length cs] 24) (.cells #[.int .i64 0, .slice none 0 0] 24)
  obtain ⟨W, hW⟩ : ∃ W, (((w.alloc (.cells #[.int .i64 t.fn, .slice A t.args.length c] 24)).alloc (.cells #[.int .i64 s.fn, .slice As s.args.length cs] 24)).alloc (.cells #[.int .i64 0, .slice none 0 0] 24)) = W := ⟨_, rfl⟩
  have hB : Below w.heap.size w W := by rw [← hW]; exact (((Below.refl _ _).alloc (Nat.le_refl _) _).alloc (by simp) _).alloc (by simp; omega) _
  rw [hW] at q0 q1 q2
  have hWs : w.heap.size + 1 + 1 < W.heap.size := (Array.getElem?_eq_some_iff.1 q2).1
  have hA' := Lib.hid (hA.on hB)
  have hAs' := Lib.hid (hAs.on hB)
  have hp' := Lib.hid (hp.on hB)
  have hP : Hid (PtrT W W.heap.size w.heap.size 0 t) := ⟨by omega, hi, (cells_two q0).1, ⟨A, c, (cells_two q0).2.1, hA'.out⟩⟩
  have HW := Lib.hid hW
  have HAs := Lib.hid hAs
  have Hp := Lib.hid hp
  clear hW hA hAs hp
  cases hs : subT t p with
  | none =>
    have Hs := Lib.hid hs
    clear hs
    go_enter Tryd.func8, Tryd.ntmps8
    go_wp2_with (first
      | (go_at_call 21
         rw [HW.out]
         refine (find_any t p w.heap.size 0 Ap cp W W.heap.size hP.out hp'.out).mono ?_
         rintro e w1 ⟨rfl, h1⟩
         rw [Hs.out] at h1
         obtain rfl := h1
         obtain ⟨d0, d1, g0, g1⟩ := cells_two q2)
      | fail)
    obtain ⟨z0, z1⟩ := set2_two (u := .int .i64 0) (v := .slice none 0 0) q2
    have p0 := (cells_two z0).1
    have p1 := (cells_two z1).2.1
    refine bodyPost_ret (v := .tuple #[.agg #[.int .i64 0, .slice none 0 0], .bool false]) (by simp [results, Tryd.results8, go_sem, p0, p1]) rfl ⟨?_, by rw [Hs.out]⟩
    exact (hB.setCell (by show _ ≤ w.heap.size + 1 + 1; omega) _).setCell (by show _ ≤ w.heap.size + 1 + 1; omega) _
  | some v =>
    have Hs := Lib.hid hs
    clear hs
    go_enter Tryd.func8, Tryd.ntmps8
    go_upto_region 4 with (first
      | (go_at_call 21
         rw [HW.out]
         refine (find_any t p w.heap.size 0 Ap cp W W.heap.size hP.out hp'.out).mono ?_
         rintro e w1 ⟨rfl, h1⟩
         rw [Hs.out] at h1
         obtain ⟨bs, os, rfl, hS⟩ := h1
         obtain ⟨x0, x1, g0, g1⟩ := cells_two q0)
      | (go_at_call 22
         refine (clone_any t hsz A c w1 hi hA'.out).mono ?_
         rintro e w2 ⟨A4, c4, rfl, hO4, hb4⟩
         have y0 := (hb4.block _ (by omega)).trans q0
         have y1 := (hb4.block _ (by omega)).trans q1
         have y2 := (hb4.block _ hWs).trans q2
         obtain ⟨d0, d1, k0, k1⟩ := cells_two y0)
      | fail)
    have hw2 : w1.heap.size ≤ w2.heap.size := hb4.size
    obtain ⟨_, z1⟩ := set2_two (u := .int .i64 t.fn) (v := .slice A4 t.args.length c4) y0
    obtain ⟨W3, hW3⟩ : ∃ W3, (w2.setCell ⟨w.heap.size, 0, none⟩ (.int .i64 t.fn)).setCell ⟨w.heap.size, 1, none⟩ (.slice A4 t.args.length c4) = W3 := ⟨_, rfl⟩
    have hoth : ∀ g, g ≠ w.heap.size → W3.heap[g]? = w2.heap[g]? := fun g hg => by rw [← hW3]; exact (heap_setCell_other _ _ _ _ hg).trans (heap_setCell_other _ _ _ _ hg)
    have hsz3 : W3.heap.size = w2.heap.size := by rw [← hW3]; simp
    have hB3 : Below w.heap.size w W3 := by rw [← hW3]; exact ((hB.trans (hb4.mono (by omega))).setCell (by show _ ≤ w.heap.size; omega) _).setCell (by show _ ≤ w.heap.size; omega) _
    rw [hW3] at z1 ⊢
    clear hW3 d0 d1 k0 k1 x0 x1 g0 g1 y0 hS hP
    have hO3 : OwnT W3 w1.heap.size w2.heap.size A4 t.args := hO4.keep fun g h1 _ => hoth g (by omega)
    obtain ⟨x0, x1, fx0, fx1⟩ := cells_two z1
    have s3 := (hoth (w.heap.size + 1) (by omega)).trans y1
    have r3 := (hoth (w.heap.size + 1 + 1) (by omega)).trans y2
    obtain ⟨e0, e1, _, _⟩ := cells_two s3
    have hw1 : w.heap.size + 2 < w1.heap.size := hWs
    have hP3 : Hid (PtrT W3.drew W3.drew.heap.size w.heap.size 0 t) := ⟨by show w.heap.size < W3.heap.size; omega, hi, x0, ⟨A4, c4, x1, (hO3.args (by show _ ≤ W3.heap.size; omega)).drewN 1⟩⟩
    have hAsd : Hid (Args W3.drew W3.drew.heap.size As s.args) := (HAs.out.on hB3).drewN 1
    have hpd : Hid (Ints W3.drew W3.drew.heap.size Ap p) := (Hp.out.on hB3).on (bl_drewN (Below.refl _ _) 1)
    have hO3d : OwnT W3.drew w1.heap.size w2.heap.size A4 t.args := hO3.keep fun _ _ _ => rfl
    have x1d : W3.drew.cell? ⟨w.heap.size, 0 + 1, none⟩ = some (.slice A4 t.args.length c4) := x1
    have hfz : ∀ b, b = w.heap.size → W3.frozen? ⟨b, 0, none⟩ = false ∧ W3.frozen? ⟨b, 1, none⟩ = false := fun b e => by rw [e]; exact ⟨fx0, fx1⟩
    have hsb : ∀ w', Below W3.heap.size W3 w' → w'.cell? ⟨w.heap.size + 1, 0, none⟩ = some (.int .i64 s.fn) ∧ w'.cell? ⟨w.heap.size + 1, 1, none⟩ = some (.slice As s.args.length cs) := fun w' h => ⟨cell_on h (by omega) e0, cell_on h (by omega) e1⟩
    clear fx0 fx1
    go_region_held3 (fun w' => w'.cell? ⟨w.heap.size + 1, 0, none⟩ = some (.int .i64 s.fn) ∧ w'.cell? ⟨w.heap.size + 1, 1, none⟩ = some (.slice As s.args.length cs))
      (first | exact ⟨e0, e1⟩ | exact hsb _ hB5 | exact ⟨cell_set2 (hsb _ hB5).1 hn1, cell_set2 (hsb _ hB5).2 hn1⟩ | fail)
      (first
        | (go_at_call 21; refine (find_path t p w.heap.size 0 Ap cp W3.drew W3.drew.heap.size hP3.out hpd.out).mono ?_; go_must (rintro e w4 ⟨rfl, h4⟩; rw [Hs.out] at h4; obtain ⟨bs, os, rfl, hS4, hPA⟩ := h4))
        | (go_at_call 22; refine (clone_any s hss As cs W3.drew his hAsd.out).mono ?_; go_must (rintro e w5 ⟨A5, c5, rfl, hO5, hb5⟩; have hB5 : Below W3.heap.size W3 w5 := ⟨hb5.os, hb5.tape, hb5.output, hb5.size, hb5.block⟩; have r0 := cell_grow hb5 _ _ _ hS4.c0; obtain ⟨Ar, cr, hr1, _⟩ := hS4.rest; have r1 := cell_grow hb5 _ _ _ hr1; have hbl : bs < W3.heap.size := hS4.hb; have hfr : w5.frozen? ⟨bs, os, none⟩ = false ∧ w5.frozen? ⟨bs, os + 1, none⟩ = false := put_fr hPA x1d hO3d hfz (hB5.block bs hbl); obtain ⟨hf0, hf1⟩ := hfr; obtain ⟨hn0, hn1, hn2⟩ := put_ne hPA x1d hO3d hw1))
        | fail)
    have hWr := wrote_two s A5 c5 r0 r1
    obtain ⟨w6, hw6⟩ : ∃ w6, (w5.setCell ⟨bs, os, none⟩ (.int .i64 s.fn)).setCell ⟨bs, os + 1, none⟩ (.slice A5 s.args.length c5) = w6 := ⟨_, rfl⟩
    have hsz6 : w6.heap.size = w5.heap.size := by rw [← hw6]; simp
    have hB6 : Below w.heap.size w w6 := by rw [← hw6]; exact ((hB3.trans (hB5.mono (by omega))).setCell (by show _ ≤ bs; exact hn0) _).setCell (by show _ ≤ bs; exact hn0) _
    have h5s := hB5.size
    rw [hw6] at hWr ⊢
    clear hw6
    have hP5 : PathA w5 p w.heap.size 0 t bs os := path_keep (cell_grow hb5) hPA
    have hO35 : OwnT w5 w1.heap.size w2.heap.size A4 t.args := hO3.keep fun g _ hg => hB5.block g (by omega)
    obtain ⟨A6, c6, hi6, z0, z6, hN6⟩ := put_args (N := fun g => w1.heap.size ≤ g ∧ g < w5.heap.size) his hO5 (fun g h1 h2 => ⟨by have h1' : W3.heap.size ≤ g := h1; omega, h2⟩) hP5 Hs.out hi (cell_on hB5 (by omega) x0) (cell_on hB5 (by omega) x1) hO35 (by omega) (by show w.heap.size < W3.heap.size; omega) (by show w2.heap.size ≤ W3.heap.size; omega) (fun g h1 h2 => ⟨h1, by omega⟩) hWr
    have r6 := (hWr.blk (w.heap.size + 1 + 1) hn2).trans ((hB5.block _ (by omega)).trans r3)
    obtain ⟨d0, d1, k0, k1⟩ := cells_two r6
    obtain ⟨v0, v1⟩ := set2_two (u := .int .i64 (putT t p s).fn) (v := .slice A6 (putT t p s).args.length c6) r6
    have p0 := (cells_two v0).1
    have p1 := (cells_two v1).2.1
    go_wp2
    refine bodyPost_ret (v := .tuple #[.agg #[.int .i64 (putT t p s).fn, .slice A6 (putT t p s).args.length c6], .bool true]) (by simp [results, Tryd.results8, go_sem, p0, p1]) rfl ⟨(hB6.setCell (by show _ ≤ w.heap.size + 1 + 1; omega) _).setCell (by show _ ≤ w.heap.size + 1 + 1; omega) _, ?_⟩
    rw [Hs.out]
    refine ⟨A6, c6, rfl, hi6, ?_⟩
    refine (hN6.keep fun g hg => ?_).args fun g hg => by simp; omega
    exact (heap_setCell_other _ _ _ _ (by show g ≠ w.heap.size + 1 + 1; omega)).trans (heap_setCell_other _ _ _ _ (by show g ≠ w.heap.size + 1 + 1; omega))
end Go.Proofs.YtimgomoafeaoiaaDoor
