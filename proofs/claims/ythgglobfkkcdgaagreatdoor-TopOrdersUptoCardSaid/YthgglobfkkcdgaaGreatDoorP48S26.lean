import Derived.Test.YthgglobfkkcdgaaGreatDoorP48S21
import Derived.Test.YthgglobfkkcdgaaGreatDoorP48S25
import Derived.Test.YthgglobfkkcdgaaGreatDoorP48S17
import Derived.Test.YthgglobfkkcdgaaGreatDoorP48S1
import Derived.Test.YthgglobfkkcdgaaGreatDoorP48S22
import Derived.Test.YthgglobfkkcdgaaGreatDoorP48S2
import Derived.Test.YthgglobfkkcdgaaGreatDoorRows
namespace Go.Proofs.YthgglobfkkcdgaaGreatDoor
open Go.RowKit Go.Shelf
set_option maxRecDepth 100000
theorem refApplyK_at (l : List Bd) (hsm : ∀ x ∈ l, x.t.size ≤ 4398046511104) (t : Tm) (hsz : t.size ≤ 4398046511104) (B : Option Addr) (cb : Nat) (A : Option Addr) (c : Nat) (w : World) (hB : Binds w (· < w.heap.size) B l) (hf : I64 t.fn) (hA : Args w w.heap.size A t.args) :
    Calls Tryz.prog 11 #[.slice B l.length cb, .agg #[.int .i64 t.fn, .slice A t.args.length c]] w fun e w' => ∃ A' c', e = .returned (.agg #[.int .i64 (appT (bdT l) t).fn, .slice A' (appT (bdT l) t).args.length c']) ∧ I64 (appT (bdT l) t).fn ∧ ArgsK w' (fun g => w.heap.size ≤ g ∧ g < w'.heap.size) A' c' (appT (bdT l) t).args ∧ Below w.heap.size w w' := by
  have h64 := appT_fn64 hB hf
  have hal := appT_args hsm hA.len
  refine (refApplyK_any l hsm t hsz B cb A c w hB hf hA).mono ?_
  rintro e w' ⟨v, r, rfl, hl, hR, hb⟩
  have hlen : r.length = (appT (bdT l) t).args.length := by rw [← hl, List.length_map]
  obtain ⟨A', c', rfl, hN⟩ := hR.argsK (M := fun g => w.heap.size ≤ g ∧ g < w'.heap.size) (by rw [hlen]; exact hal) (fun g e => row_lt hR.row g e) (fun g hg => ⟨hg.1, hg.2.1⟩)
  rw [hl] at hN
  exact ⟨A', c', by rw [hlen], h64, hN, hb⟩
section
variable {Fs : List Fct} {a0 : Act} {W : World} {dst : Option Tmp} {ty : TypeId} {pos : String} {after : Array Edge} {m : Nat}
end
end Go.Proofs.YthgglobfkkcdgaaGreatDoor
namespace Go.Proofs.YthgglobfkkcdgaaGreatDoor
open Go.RowKit Go.Shelf
set_option maxRecDepth 100000
theorem refItself_any (t : Tm) (v : Int) (A : Option Addr) (c : Nat) (w : World) (hv : I64 v) :
    Calls Tryz.prog 21 #[.agg #[.int .i64 t.fn, .slice A t.args.length c], .int .i64 v] w fun e w' => e = .returned (.bool (decide (selfB ⟨v, t⟩))) ∧ Below w.heap.size w w' := by
  have hWB : Below w.heap.size w (w.alloc (.cells #[.int .i64 t.fn, .slice A t.args.length c] 32)) := (Below.refl _ _).alloc (Nat.le_refl _) _
  have hlo := hv.1
  have hhi := hv.2
  by_cases h1 : t.fn = -1 - v
  · go_enter Tryz.func21, Tryz.ntmps21
    go_wp2
    go_ret
    exact ⟨ret_bool (by rw [Bool.eq_iff_iff, beq_iff_eq, decide_eq_true_iff]; unfold selfB; exact ⟨fun h => ⟨h1, by show t.args.length = 0; omega⟩, fun h => by have h2 : t.args.length = 0 := h.2; omega⟩), by rwa [h1] at hWB⟩
  · go_enter Tryz.func21, Tryz.ntmps21
    go_wp2
    go_ret
    exact ⟨ret_bool (by unfold selfB; simp [h1]), hWB⟩
theorem refItself_bd (x : Bd) (A : Option Addr) (c : Nat) (w : World) (hv : I64 x.v) :
    Calls Tryz.prog 21 #[.agg #[.int .i64 x.t.fn, .slice A x.t.args.length c], .int .i64 x.v] w fun e w' => e = .returned (.bool (decide (selfB x))) ∧ Below w.heap.size w w' :=
  refItself_any x.t x.v A c w hv
set_option maxHeartbeats 2000000 in
theorem refSubCheck_any (l : List Bd) (A : Option Addr) (c : Nat) (w : World) (hl : l.length ≤ 9223372036854775806) (hA : Binds w (· < w.heap.size) A l) :
    Calls Tryz.prog 7 #[.slice A l.length c] w fun e w' => e = .returned (.int .i64 (chkN l)) ∧ Below w.heap.size w w' := by
  have HA := Lib.hid hA
  have HI0 := Lib.hid (ChkI.start l)
  clear hA
  go_enter Tryz.func7, Tryz.ntmps7
  go_wp2
  go_loopw [3] (fun i wr => ∃ (k : Nat) (lo : Int), k ≤ l.length ∧ i = .int .i64 (k : Int) ∧ Below w.heap.size w wr ∧ Hid (ChkI l k lo)) (fun i _ => l.length - (intOf i).toNat)
  case atStart => exact ⟨0, _, Nat.zero_le _, rfl, Below.refl _ _, HI0⟩
  case round =>
    obtain ⟨k, lo, hk, rfl, hBr, H⟩ := hrel
    by_cases hlt : k < l.length
    · obtain ⟨x, hx⟩ : ∃ x, l[k]? = some x := ⟨_, List.getElem?_eq_getElem hlt⟩
      obtain ⟨b, off, A', c', rfl, h⟩ := HA.out.get hx
      have e0 := cell_on hBr h.hb h.c0
      have e1 := cell_on hBr h.hb h.c1
      have e2 := cell_on hBr h.hb h.c2
      have hiv := h.iv
      have hbw : b < w.heap.size := h.hb
      have Hx := Lib.hid hx
      clear hx
      have hge := H.out.ge
      have hkl : (k : Int) < (l.length : Int) := by omega
      go_upto_region 4 with fail
      have r0 : ∀ x' : Later wr.heap.size wr, x'.w.cell? ⟨b, off + k * 3, none⟩ = some (.int .i64 x.v) := fun x' => cell_on (hBr.trans (x'.h.mono hBr.size)) h.hb h.c0
      have r1 : ∀ x' : Later wr.heap.size wr, x'.w.cell? ⟨b, off + k * 3 + 1, none⟩ = some (.int .i64 x.t.fn) := fun x' => cell_on (hBr.trans (x'.h.mono hBr.size)) h.hb h.c1
      have r2 : ∀ x' : Later wr.heap.size wr, x'.w.cell? ⟨b, off + k * 3 + 2, none⟩ = some (.slice A' x.t.args.length c') := fun x' => cell_on (hBr.trans (x'.h.mono hBr.size)) h.hb h.c2
      by_cases hneg : x.v < 0
      · have hres := Lib.hid (chkN_no (H.out.low Hx.out (by omega)))
        refine wp_region_later wr.heap.size wr (by kernel_rfl) (by kernel_rfl) (bl_drewN (Below.refl _ _) 1) ?_
        repeat (go_big_quiet_step (fail))
        refine wpQuiet_nil ?_
        rintro _ ⟨y, rfl⟩
        have hBz := hBr.trans (y.h.mono hBr.size)
        go_wp2
        go_ret
        exact ⟨ret_int hres.out.symm, hBz⟩
      · have hneg' : decide (x.v < 0) = false := decide_eq_false hneg
        rcases k with _ | m
        · have hlo := H.out.first rfl
          subst hlo
          have hk0 : decide (((0 : Nat) : Int) > 0) = false := by decide
          by_cases hs : selfB x
          · have hres := Lib.hid (chkN_no (H.out.self Hx.out hs))
            have hs' := decide_eq_true hs
            simp only [Nat.zero_mul, Nat.add_zero] at *
            refine wp_region_later wr.heap.size wr (by kernel_rfl) (by kernel_rfl) (bl_drewN (Below.refl _ _) 1) ?_
            repeat (go_big_quiet_step (first | (go_at_call 21; exact calls_later _ (Nat.le_refl _) (refItself_bd x A' c' _ hiv)) | fail))
            refine wpQuiet_nil ?_
            rintro _ ⟨y, rfl⟩
            have hBz := hBr.trans (y.h.mono hBr.size)
            go_wp2
            go_ret
            exact ⟨ret_int hres.out.symm, hBz⟩
          · have hnext := Lib.hid (H.out.next Hx.out (by omega) hs)
            have hs' := decide_eq_false hs
            simp only [Nat.zero_mul, Nat.add_zero] at *
            refine wp_region_later wr.heap.size wr (by kernel_rfl) (by kernel_rfl) (bl_drewN (Below.refl _ _) 1) ?_
            repeat (go_big_quiet_step (first | (go_at_call 21; exact calls_later _ (Nat.le_refl _) (refItself_bd x A' c' _ hiv)) | fail))
            refine wpQuiet_nil ?_
            rintro _ ⟨y, rfl⟩
            have hBz := hBr.trans (y.h.mono hBr.size)
            go_wp2
            go_roundw
            case rel => exact ⟨_, x.v, hlt, by go_num, hBz, hnext⟩
            case measure => simp [intOf]; omega
        · obtain ⟨y0, hy⟩ : ∃ y, l[m]? = some y := ⟨_, List.getElem?_eq_getElem (by omega)⟩
          obtain ⟨bb, off2, A2, c2, e, h2⟩ := HA.out.get hy
          injection e with e
          injection e with e1 e2 _
          subst e1; subst e2
          have hlo := H.out.last m y0 rfl hy
          have s0 : ∀ x' : Later wr.heap.size wr, x'.w.cell? ⟨b, off + m * 3, none⟩ = some (.int .i64 y0.v) := fun x' => cell_on (hBr.trans (x'.h.mono hBr.size)) h2.hb h2.c0
          have f0 : IntKind.i64.wrap (((m + 1 : Nat) : Int) - 1) = (m : Int) := by rw [IntKind.wrap_i64]; omega
          have f1 : decide (((m + 1 : Nat) : Int) > 0) = true := decide_eq_true (by omega)
          have f2 : (m : Int) < (l.length : Int) := by omega
          have f4 : (0 : Int) ≤ (m : Int) := by omega
          have f3 : (m : Int).toNat = m := by omega
          clear hy h2
          by_cases hle : x.v ≤ y0.v
          · have hres := Lib.hid (chkN_no (H.out.low Hx.out (by omega)))
            have hle' := decide_eq_true hle
            clear hlo
            refine wp_region_later wr.heap.size wr (by kernel_rfl) (by kernel_rfl) (bl_drewN (Below.refl _ _) 1) ?_
            repeat (go_big_quiet_step (first | (go_at_call 21; exact calls_later _ (Nat.le_refl _) (refItself_bd x A' c' _ hiv)) | fail))
            refine wpQuiet_nil ?_
            rintro _ ⟨y, rfl⟩
            have hBz := hBr.trans (y.h.mono hBr.size)
            go_wp2
            go_ret
            exact ⟨ret_int hres.out.symm, hBz⟩
          · have hle' := decide_eq_false hle
            have hlt2 : lo < x.v := by omega
            clear hlo
            by_cases hs : selfB x
            · have hres := Lib.hid (chkN_no (H.out.self Hx.out hs))
              have hs' := decide_eq_true hs
              refine wp_region_later wr.heap.size wr (by kernel_rfl) (by kernel_rfl) (bl_drewN (Below.refl _ _) 1) ?_
              repeat (go_big_quiet_step (first | (go_at_call 21; exact calls_later _ (Nat.le_refl _) (refItself_bd x A' c' _ hiv)) | fail))
              refine wpQuiet_nil ?_
              rintro _ ⟨y, rfl⟩
              have hBz := hBr.trans (y.h.mono hBr.size)
              go_wp2
              go_ret
              exact ⟨ret_int hres.out.symm, hBz⟩
            · have hnext := Lib.hid (H.out.next Hx.out hlt2 hs)
              have hs' := decide_eq_false hs
              refine wp_region_later wr.heap.size wr (by kernel_rfl) (by kernel_rfl) (bl_drewN (Below.refl _ _) 1) ?_
              repeat (go_big_quiet_step (first | (go_at_call 21; exact calls_later _ (Nat.le_refl _) (refItself_bd x A' c' _ hiv)) | fail))
              refine wpQuiet_nil ?_
              rintro _ ⟨y, rfl⟩
              have hBz := hBr.trans (y.h.mono hBr.size)
              go_wp2
              go_roundw
              case rel => exact ⟨_, x.v, hlt, by go_num, hBz, hnext⟩
              case measure => simp [intOf]; omega
    · obtain rfl : k = l.length := by omega
      have hd := Lib.hid (chkN_yes (H.out.done (Nat.le_refl _)))
      go_wp2
      go_ret
      exact ⟨ret_int hd.out.symm, hBr⟩
end Go.Proofs.YthgglobfkkcdgaaGreatDoor
namespace Go.Proofs.YthgglobfkkcdgaaGreatDoor
open Go.RowKit Go.Shelf
set_option maxRecDepth 100000
theorem RowTK.put {w : World} {base g cap n i : Nat} {l : List Ti} {x : Ti} {N M : Nat → Prop} (h : RowTK w base (.slice (some ⟨g, 0, none⟩) n cap) l N) (hn : l.length = n) (hi : i < l.length) (hx : I64 x.t.fn) (hg : ∀ k, N k → k ≠ g ∧ M k) (hxa : ArgsK w (fun k => k ≠ g ∧ M k) x.A x.c x.t.args) :
    RowTK ((w.setCell ⟨g, i * 2, none⟩ (.int .i64 x.t.fn)).setCell ⟨g, i * 2 + 1, none⟩ (.slice x.A x.t.args.length x.c)) base (.slice (some ⟨g, 0, none⟩) n cap) (l.set i x) M := by
  subst hn
  have h1 := (h.row.stored (i * 2) (.int .i64 x.t.fn)).1
  have h2 := (h1.stored (i * 2 + 1) (.slice x.A x.t.args.length x.c)).1
  rw [ti_set l i x hi] at h2
  have hk : ∀ k, k ≠ g → ((w.setCell ⟨g, i * 2, none⟩ (.int .i64 x.t.fn)).setCell ⟨g, i * 2 + 1, none⟩ (.slice x.A x.t.args.length x.c)).heap[k]? = w.heap[k]? := fun k e => (heap_setCell_other _ _ _ _ e).trans (heap_setCell_other _ _ _ _ e)
  refine ⟨by rw [List.length_set]; exact h2, fun y hy => ?_, fun y hy => ?_⟩
  · rcases List.mem_or_eq_of_mem_set hy with hy | rfl
    · exact h.i64 y hy
    · exact hx
  · rcases List.mem_or_eq_of_mem_set hy with hy | rfl
    · exact ((h.sub y hy).keep fun k e => hk k (hg k e).1).wide fun k e => (hg k e).2
    · exact (hxa.keep fun k e => hk k e.1).wide fun k e => e.2
def RPutPostK (t : Tm) (p : List Int) (s : Tm) (w : World) (e : Ending) (w' : World) : Prop := ∃ A' c', e = .returned (.tuple #[.agg #[.int .i64 (putO t p s).fn, .slice A' (putO t p s).args.length c'], .bool (subT t p).isSome]) ∧ I64 (putO t p s).fn ∧ ArgsK w' (fun g => w.heap.size ≤ g ∧ g < w'.heap.size) A' c' (putO t p s).args ∧ Below w.heap.size w w'
def RPutAtK (p : List Int) : Prop := ∀ (t s : Tm) (A : Option Addr) (c : Nat) (Ap : Option Addr) (cp : Nat) (As : Option Addr) (cs : Nat) (w : World), t.size ≤ 4398046511104 → s.size ≤ 4398046511104 → I64 t.fn → I64 s.fn → Args w w.heap.size A t.args → Ints w w.heap.size Ap p → p.length ≤ cp → cp ≤ 9223372036854775807 → Args w w.heap.size As s.args →
  Calls Tryz.prog 13 #[.agg #[.int .i64 t.fn, .slice A t.args.length c], .slice Ap p.length cp, .agg #[.int .i64 s.fn, .slice As s.args.length cs]] w (RPutPostK t p s w)
structure RPutMidK (w W : World) (o : Tm) (bb : Nat) (wx : World) : Prop where
  blw : Below W.heap.size W wx
  lo : W.heap.size ≤ bb
  i64 : I64 o.fn
  xb : ∃ Ax cx, wx.heap[bb]? = some (.cells #[.int .i64 o.fn, .slice Ax o.args.length cx] 32) ∧ ArgsK wx (fun g => W.heap.size ≤ g ∧ g < wx.heap.size) Ax cx o.args
set_option maxHeartbeats 2000000 in
theorem refPutK_any (p : List Int) : RPutAtK p := by
  induction p with
  | nil =>
    intro t s A c Ap cp As cs w hsz hss hi his hA hp hcp hcp2 hAs
    obtain ⟨q0, q1, q2⟩ := heap3 w (.cells #[.int .i64 t.fn, .slice A t.args.length c] 32) (.cells #[.int .i64 s.fn, .slice As s.args.length cs] 32) (.cells #[.int .i64 0, .slice none 0 0] 32)
    obtain ⟨W, hW⟩ : ∃ W, (((w.alloc (.cells #[.int .i64 t.fn, .slice A t.args.length c] 32)).alloc (.cells #[.int .i64 s.fn, .slice As s.args.length cs] 32)).alloc (.cells #[.int .i64 0, .slice none 0 0] 32)) = W := ⟨_, rfl⟩
    have hB : Below w.heap.size w W := by rw [← hW]; exact (((Below.refl _ _).alloc (Nat.le_refl _) _).alloc (by simp) _).alloc (by simp; omega) _
    rw [hW] at q0 q1 q2
    have hWs : w.heap.size + 1 + 1 < W.heap.size := (Array.getElem?_eq_some_iff.1 q2).1
    have HAs := Lib.hid (hAs.on hB)
    have HW := Lib.hid hW
    obtain ⟨a0, a1, _, _⟩ := cells_two q1
    clear hW hA hAs hp
    simp only [List.length_nil] at hcp ⊢
    go_enter Tryz.func13, Tryz.ntmps13
    go_upto_region 1 with fail
    rw [HW.out]
    go_wp2_with (first
      | (go_at_call 27; refine (refCopyK_at s As cs W hss his HAs.out).mono ?_; go_must (rintro e w2 ⟨A4, c4, rfl, hN4, hb4⟩; have y2 := (hb4.block _ hWs).trans q2; obtain ⟨d0, d1, k0, k1⟩ := cells_two y2))
      | fail)
    obtain ⟨z0, z1⟩ := set2_two (u := .int .i64 s.fn) (v := .slice A4 s.args.length c4) y2
    have p0 := (cells_two z0).1
    have p1 := (cells_two z1).2.1
    have hw2 : W.heap.size ≤ w2.heap.size := hb4.size
    refine bodyPost_ret (v := .tuple #[.agg #[.int .i64 s.fn, .slice A4 s.args.length c4], .bool true]) (by simp [results, Tryz.results13, go_sem, p0, p1]) rfl ⟨A4, c4, by rw [putO_nil]; rfl, by rw [putO_nil]; exact his, ?_, ?_⟩
    · rw [putO_nil]
      refine (hN4.keep fun g hg => ?_).wide fun g hg => ⟨by omega, by simpa using hg.2⟩
      exact (heap_setCell_other _ _ _ _ (by show g ≠ w.heap.size + 1 + 1; omega)).trans (heap_setCell_other _ _ _ _ (by show g ≠ w.heap.size + 1 + 1; omega))
    · exact ((hB.trans (hb4.mono (by omega))).setCell (by show _ ≤ w.heap.size + 1 + 1; omega) _).setCell (by show _ ≤ w.heap.size + 1 + 1; omega) _
  | cons i p ih =>
    intro t s A c Ap cp As cs w hsz hss hi his hA hp hcp hcp2 hAs
    obtain ⟨q0, q1, q2⟩ := heap3 w (.cells #[.int .i64 t.fn, .slice A t.args.length c] 32) (.cells #[.int .i64 s.fn, .slice As s.args.length cs] 32) (.cells #[.int .i64 0, .slice none 0 0] 32)
    obtain ⟨W, hW⟩ : ∃ W, (((w.alloc (.cells #[.int .i64 t.fn, .slice A t.args.length c] 32)).alloc (.cells #[.int .i64 s.fn, .slice As s.args.length cs] 32)).alloc (.cells #[.int .i64 0, .slice none 0 0] 32)) = W := ⟨_, rfl⟩
    have hB : Below w.heap.size w W := by rw [← hW]; exact (((Below.refl _ _).alloc (Nat.le_refl _) _).alloc (by simp) _).alloc (by simp; omega) _
    rw [hW] at q0 q1 q2
    have hWs : w.heap.size + 1 + 1 < W.heap.size := (Array.getElem?_eq_some_iff.1 q2).1
    have HAs := Lib.hid hAs
    have HA := Lib.hid hA
    have HW := Lib.hid hW
    have hal := hA.len
    have hpl := hp.len
    obtain ⟨pb, po, rfl, hpb, hpc⟩ := hp.ad (by simp)
    have hp64 := hp.i64
    have Hpc := Lib.hid hpc
    have pp0 := cell_on hB hpb (hpc 0 i rfl)
    rw [Nat.add_zero] at pp0
    obtain ⟨a0, a1, _, _⟩ := cells_two q0
    obtain ⟨s0, s1, _, _⟩ := cells_two q1
    clear hW hA hAs hp hpc
    simp only [List.length_cons] at hcp hpl ⊢
    have hne : ¬ ((p.length : Int) + 1 = 0) := by omega
    by_cases hin : 0 ≤ i ∧ i < t.args.length
    · obtain ⟨h0, h1⟩ := hin
      obtain ⟨j, rfl⟩ : ∃ j : Nat, i = (j : Int) := ⟨i.toNat, by omega⟩
      obtain ⟨u, hu⟩ : ∃ u, t.args[j]? = some u := ⟨_, List.getElem?_eq_getElem (by omega)⟩
      obtain ⟨ub, uo, Au, cu, rfl, ha⟩ := HA.out.get hu
      have e0 := cell_on hB ha.hb ha.c0
      have e1 := cell_on hB ha.hb ha.c1
      have hub := ha.hb
      have d1 : decide ((j : Int) < 0) = false := decide_eq_false (by omega)
      have d2 : decide ((t.args.length : Int) ≤ (j : Int)) = false := decide_eq_false (by omega)
      have hj : j < t.args.length := by omega
      have hu3 : u.size ≤ 4398046511104 ∧ I64 u.fn ∧ Args w w.heap.size Au u.args := ⟨by have := size_mem (List.mem_of_getElem? hu); cases t with | node f xs => simp only [Tm.size, Tm.args] at this hsz; omega, ha.hi, ha.sub⟩
      have hsub := Lib.hid (show subT t ((j : Int) :: p) = subT u p from sub_step h0 h1 (by simpa using hu))
      have Hu := Lib.hid hu
      clear hu ha
      go_enter Tryz.func13, Tryz.ntmps13
      go_upto_region 1 with fail
      rw [HW.out]
      go_wp2
      go_quiet (fail)
      go_upto_region 5 with fail
      obtain ⟨Wd, hWd⟩ : ∃ Wd, W.drewN nq = Wd := ⟨_, rfl⟩
      have hBd : Below W.heap.size W Wd := by rw [← hWd]; exact bl_drewN (Below.refl _ _) nq
      have hds : Wd.heap.size = W.heap.size := by rw [← hWd]; rfl
      rw [hWd]
      have HWd := Lib.hid hWd
      clear hWd
      have hS0 : ∀ w', Below W.heap.size W w' → w'.cell? ⟨w.heap.size, 1, none⟩ = some (.slice (some ⟨ub, uo, none⟩) t.args.length c) ∧ w'.cell? ⟨ub, uo + j * 2, none⟩ = some (.int .i64 u.fn) ∧ w'.cell? ⟨ub, uo + j * 2 + 1, none⟩ = some (.slice Au u.args.length cu) ∧ w'.cell? ⟨pb, po, none⟩ = some (.int .i64 (j : Int)) ∧ w'.cell? ⟨w.heap.size + 1, 0, none⟩ = some (.int .i64 s.fn) ∧ w'.cell? ⟨w.heap.size + 1, 1, none⟩ = some (.slice As s.args.length cs) := fun w' h =>
        ⟨cell_on h (by omega) a1, cell_on h (by omega) e0, cell_on h (by omega) e1, cell_on h (by omega) pp0, cell_on h (by omega) s0, cell_on h (by omega) s1⟩
      clear a0 a1 e0 e1 pp0 s0 s1
      have hle : (1 : Int) ≤ (p.length : Int) + 1 := by omega
      obtain ⟨Aq, hAq⟩ : ∃ Aq, (if cp = 1 then some (⟨pb, po, none⟩ : Addr) else some ⟨pb, po + 1, none⟩) = Aq := ⟨_, rfl⟩
      have hq : Ints w w.heap.size Aq p := by
        refine ⟨by omega, fun x hx => hp64 x (by simp [hx]), fun hn => ⟨pb, po + 1, ?_, hpb, fun i x hx => ?_⟩⟩
        · rw [← hAq, if_neg (by omega)]
        · have := Hpc.out (i + 1) x (by simpa using hx)
          rwa [show po + 1 + i = po + (i + 1) from by omega]
      have Hq := Lib.hid hq
      clear hq
      have hWl : w.heap.size ≤ W.heap.size := by omega
      have hD : Below W.heap.size W Wd.drew := hBd.drew
      have hDa : Below W.heap.size W (Wd.alloc (.cells #[.int .i64 0, .slice none 0 0] 32)).drew := (hBd.alloc (by omega) _).drew
      have hya : (Wd.alloc (.cells #[.int .i64 0, .slice none 0 0] 32)).drew.heap[W.heap.size]? = some (.cells #[.int .i64 0, .slice none 0 0] 32) := by rw [← hds]; exact heap_alloc_new Wd _
      obtain ⟨a1, e0, e1, pp0, s0, s1⟩ := hS0 Wd hBd
      go_cut [8, 9] (fun s8 s9 wx => ∃ bb : Nat, s8 = .pointer (some ⟨bb, 0, none⟩) ∧ s9 = .bool (subT u p).isSome ∧ RPutMidK w W (putO u p s) bb wx)
      case first =>
        go_region_held3 (fun w' => w'.cell? ⟨w.heap.size, 1, none⟩ = some (.slice (some ⟨ub, uo, none⟩) t.args.length c) ∧ w'.cell? ⟨ub, uo + j * 2, none⟩ = some (.int .i64 u.fn) ∧ w'.cell? ⟨ub, uo + j * 2 + 1, none⟩ = some (.slice Au u.args.length cu) ∧ w'.cell? ⟨pb, po, none⟩ = some (.int .i64 (j : Int)) ∧ w'.cell? ⟨w.heap.size + 1, 0, none⟩ = some (.int .i64 s.fn) ∧ w'.cell? ⟨w.heap.size + 1, 1, none⟩ = some (.slice As s.args.length cs))
          (first | exact ⟨a1, e0, e1, pp0, s0, s1⟩ | exact hS0 _ hB4 | exact hS0 _ (hB4.alloc hB4.size _) | exact hS0 _ hDa | exact hS0 _ ((hB4.setCell (Nat.le_refl _) _).setCell (Nat.le_refl _) _) | fail)
          (first
            | (go_at_call 13
               refine (ih u s Au cu Aq (cp - 1) As cs Wd.drew hu3.1 hss hu3.2.1 his (hu3.2.2.on (hB.trans (hD.mono hWl))) (Hq.out.on (hB.trans (hD.mono hWl))) (by omega) (by omega) (HAs.out.on (hB.trans (hD.mono hWl)))).mono ?_
               rintro e w4 ⟨Ax, cx, rfl, hix, hAx, hb4⟩
               have hB4 : Below W.heap.size W w4 := hD.trans (hb4.mono (by show W.heap.size ≤ Wd.heap.size; omega)))
            | (go_at_call 13
               refine (ih u s Au cu Aq (cp - 1) As cs (Wd.alloc _).drew hu3.1 hss hu3.2.1 his (hu3.2.2.on (hB.trans (hDa.mono hWl))) (Hq.out.on (hB.trans (hDa.mono hWl))) (by omega) (by omega) (HAs.out.on (hB.trans (hDa.mono hWl)))).mono ?_
               rintro e w4 ⟨Ax, cx, rfl, hix, hAx, hb4⟩
               have hB4 : Below W.heap.size W w4 := hDa.trans (hb4.mono (by simp; omega))
               have y4 : w4.heap[W.heap.size]? = some (.cells #[.int .i64 0, .slice none 0 0] 32) := (hb4.block _ (by simp; omega)).trans hya
               obtain ⟨m0, m1, fm0, fm1⟩ := cells_two y4)
            | fail)
        all_goals (go_wp2_with fail; go_meet)
        · have hBa : Below w4.heap.size w4 (w4.alloc (.cells #[.int .i64 (putO u p s).fn, .slice Ax (putO u p s).args.length cx] 32)) := (Below.refl _ _).alloc (Nat.le_refl _) _
          refine ⟨w4.heap.size, rfl, rfl, hB4.alloc hB4.size _, hB4.size, hix, Ax, cx, heap_alloc_new _ _, (hAx.keep fun g hg => hBa.block g hg.2).wide fun g hg => ⟨?_, ?_⟩⟩
          · have h1 : Wd.heap.size ≤ g := hg.1
            omega
          · have := hg.2
            simp
            omega
        · refine ⟨W.heap.size, rfl, rfl, (hB4.setCell (Nat.le_refl _) _).setCell (Nat.le_refl _) _, Nat.le_refl _, hix, Ax, cx, (set2_two y4).2, (hAx.keep fun g hg => ?_).wide fun g hg => ⟨?_, ?_⟩⟩
          · have h1 := hg.1
            simp at h1
            exact (heap_setCell_other _ _ _ _ (by show g ≠ W.heap.size; omega)).trans (heap_setCell_other _ _ _ _ (by show g ≠ W.heap.size; omega))
          · have h1 := hg.1
            simp at h1
            omega
          · simpa using hg.2
      case rest =>
        obtain ⟨bb, rfl, rfl, ⟨hBx, hlo, hio, Ax, cx, hxb, hAx⟩⟩ := hcut
        have hBxs := hBx.size
        have tx := (hBx.block _ (by omega)).trans q0
        have rx := (hBx.block _ hWs).trans q2
        obtain ⟨a0, a1, _, _⟩ := cells_two tx
        obtain ⟨b0, b1, g0, g1⟩ := cells_two rx
        have hBw := hB.trans (hBx.mono hWl)
        by_cases hso : (subT u p).isSome = true
        · have Hss := Lib.hid (show (subT t ((j : Int) :: p)).isSome = true by rw [hsub.out]; exact hso)
          have hpu : putO u p s = putT u p s := by unfold putO; rw [if_pos hso]
          have Hp := Lib.hid (show putO t ((j : Int) :: p) s = .node t.fn (t.args.set j (putO u p s)) by
            have e : putT t ((j : Int) :: p) s = .node t.fn (t.args.set j (putT u p s)) := by simp only [putT, Int.toNat_natCast, Hu.out]
            rw [hpu, ← e]
            unfold putO
            rw [if_pos Hss.out])
          have hAt := Lib.hid (HA.out.on hBw)
          have hbbl : bb < _ := (Array.getElem?_eq_some_iff.1 hxb).1
          obtain ⟨x0, x1, _, _⟩ := cells_two hxb
          have pp1 := (hS0 _ hBx).2.2.2.1
          clear hpu
          go_upto_region 9 with (first
            | (go_at_call 27
               refine (refCopyK_any t hsz _ c _ hi hAt.out).mono ?_
               rintro e w5 ⟨v5, l5, rfl, hl5, hR5, hb5⟩
               have hl5n : l5.length = t.args.length := by rw [← hl5, List.length_map]
               have hrow5 := hR5.row
               rw [hl5n] at hrow5
               obtain ⟨g5, c5, hv5⟩ := row_some hrow5 (by omega)
               subst hv5
               have hg5 := row_lt hrow5 g5 rfl
               have hfl : (l5.flatMap Ti.cells).length = t.args.length * 2 := by rw [ti_len, hl5n]
               have r0 := (hrow5.cellAt (j * 2) (by omega)).trans (List.getElem?_eq_getElem (by omega))
               have r1 := (hrow5.cellAt (j * 2 + 1) (by omega)).trans (List.getElem?_eq_getElem (by omega))
               have fr0 := hrow5.frozenAt (j * 2)
               have fr1 := hrow5.frozenAt (j * 2 + 1)
               have HR5 := Lib.hid hR5
               clear hR5)
            | fail)
          obtain ⟨W6, hW6⟩ : ∃ W6, w5.alloc (.cells #[.int .i64 t.fn, .slice (some ⟨g5, 0, none⟩) t.args.length c5] 32) = W6 := ⟨_, rfl⟩
          have hb6 : Below w5.heap.size w5 W6 := by rw [← hW6]; exact (Below.refl _ _).alloc (Nat.le_refl _) _
          have o6 : W6.heap[w5.heap.size]? = some (.cells #[.int .i64 t.fn, .slice (some ⟨g5, 0, none⟩) t.args.length c5] 32) := by rw [← hW6]; exact heap_alloc_new _ _
          rw [hW6]
          clear hW6
          have hs5 := hb5.size
          have hs6 := (Array.getElem?_eq_some_iff.1 o6).1
          have hb56 := bl_step hb5 hb6
          have pp6 := cell_on hb56 (by omega) pp1
          have xx0 := cell_on hb56 hbbl x0
          have xx1 := cell_on hb56 hbbl x1
          have rr0 := cell_on hb6 hg5.2 r0
          have rr1 := cell_on hb6 hg5.2 r1
          have ff0 := frozen_on hb6 hg5.2 fr0
          have ff1 := frozen_on hb6 hg5.2 fr1
          have r6 := (hb56.block _ (by omega)).trans rx
          obtain ⟨o0, o1, _, _⟩ := cells_two o6
          clear r0 r1 fr0 fr1 x0 x1 pp1 a0 a1 b0 b1 g0 g1
          have HR6 := HR5.out.keep (w' := W6) (fun g e => hb6.block g (row_lt HR5.out.row g e).2) (fun g e => hb6.block g e.2.1)
          have HR7 := HR6.put (x := ⟨putO u p s, Ax, cx⟩) (i := j) (M := fun g => W.heap.size ≤ g ∧ g < W6.heap.size) hl5n (by omega) hio (fun k e => ⟨fun e2 => e.2.2 (by rw [e2]; rfl), by have := e.1; omega, by have := e.2.1; omega⟩)
            ((hAx.keep fun g e => hb56.block g e.2).wide fun g e => ⟨by have := e.2; omega, e.1, by have := e.2; omega⟩)
          have HR7 := Lib.hid HR7
          clear HR6
          go_region
          obtain ⟨W7, hW7⟩ : ∃ W7, ((W6.setCell ⟨g5, j * 2, none⟩ (.int .i64 (putO u p s).fn)).setCell ⟨g5, j * 2 + 1, none⟩ (.slice Ax (putO u p s).args.length cx)).drew = W7 := ⟨_, rfl⟩
          have hk7 : ∀ g, g ≠ g5 → W7.heap[g]? = W6.heap[g]? := fun g e => by rw [← hW7]; exact (heap_setCell_other _ _ _ _ e).trans (heap_setCell_other _ _ _ _ e)
          have hsz7 : W7.heap.size = W6.heap.size := by rw [← hW7]; simp
          have HR8 : RowTK W7 wc.heap.size (.slice (some ⟨g5, 0, none⟩) t.args.length c5) (l5.set j ⟨putO u p s, Ax, cx⟩) (fun g => W.heap.size ≤ g ∧ g < W6.heap.size) := by rw [← hW7]; exact HR7.out.keep (fun _ _ => rfl) (fun _ _ => rfl)
          have hB7 : Below w.heap.size w W7 := by rw [← hW7]; exact (((hBw.trans (hb56.mono (by omega))).setCell (by show _ ≤ g5; omega) _).setCell (by show _ ≤ g5; omega) _).drew
          rw [hW7]
          clear hW7
          have o7 := (hk7 _ (by omega)).trans o6
          have r7 := (hk7 _ (by omega)).trans r6
          obtain ⟨y0, y1, _, _⟩ := cells_two o7
          obtain ⟨b0, b1, g0, g1⟩ := cells_two r7
          have HR8 := Lib.hid HR8
          go_wp2
          obtain ⟨z0, z1⟩ := set2_two (u := .int .i64 t.fn) (v := .slice (some ⟨g5, 0, none⟩) t.args.length c5) r7
          have p0 := (cells_two z0).1
          have p1 := (cells_two z1).2.1
          have hlx : (l5.set j ⟨putO u p s, Ax, cx⟩).length = t.args.length := by rw [List.length_set, hl5n]
          obtain ⟨A8, c8, e8, hN8⟩ := HR8.out.argsK (M := fun g => W.heap.size ≤ g ∧ g < W6.heap.size) (by omega) (fun g e => by have := row_lt HR8.out.row g e; omega) (fun g e => e)
          rw [List.map_set, hl5] at hN8
          injection e8 with e8 _ e9
          subst e8
          subst e9
          refine bodyPost_ret (v := .tuple #[.agg #[.int .i64 t.fn, .slice (some ⟨g5, 0, none⟩) t.args.length c5], .bool true]) (by simp [results, Tryz.results13, go_sem, p0, p1]) rfl ⟨some ⟨g5, 0, none⟩, c5, by rw [Hp.out, Hss.out]; simp [Tm.fn, Tm.args], by rw [Hp.out]; exact hi, ?_, ?_⟩
          · rw [Hp.out]
            refine (hN8.keep fun g hg => ?_).wide fun g hg => ⟨by omega, by have := hg.2; simp; omega⟩
            exact (heap_setCell_other _ _ _ _ (by show g ≠ w.heap.size + 1 + 1; omega)).trans (heap_setCell_other _ _ _ _ (by show g ≠ w.heap.size + 1 + 1; omega))
          · exact (hB7.setCell (by show _ ≤ w.heap.size + 1 + 1; omega) _).setCell (by show _ ≤ w.heap.size + 1 + 1; omega) _
        · have hso : (subT u p).isSome = false := by simpa using hso
          have Hn := Lib.hid (show subT t ((j : Int) :: p) = none by rw [hsub.out]; simpa using hso)
          have Hp := Lib.hid (show putO t ((j : Int) :: p) s = .node 0 [] by unfold putO; rw [Hn.out]; rfl)
          go_wp2
          obtain ⟨z0, z1⟩ := set2_two (u := .int .i64 0) (v := .slice none 0 0) rx
          have p0 := (cells_two z0).1
          have p1 := (cells_two z1).2.1
          refine bodyPost_ret (v := .tuple #[.agg #[.int .i64 0, .slice none 0 0], .bool false]) (by simp [results, Tryz.results13, go_sem, p0, p1]) rfl ⟨none, 0, by rw [Hp.out, Hn.out]; rfl, by rw [Hp.out]; exact ⟨by decide, by decide⟩, by rw [Hp.out]; exact .nil _ _, ?_⟩
          exact (hBw.setCell (by show _ ≤ w.heap.size + 1 + 1; omega) _).setCell (by show _ ≤ w.heap.size + 1 + 1; omega) _
    · have Hn := Lib.hid (show subT t (i :: p) = none from sub_none (by omega))
      have Hp := Lib.hid (show putO t (i :: p) s = .node 0 [] by unfold putO; rw [Hn.out]; rfl)
      obtain ⟨b0, b1, g0, g1⟩ := cells_two q2
      by_cases hi0 : i < 0
      · have d1 : decide (i < 0) = true := decide_eq_true hi0
        go_enter Tryz.func13, Tryz.ntmps13
        go_upto_region 1 with fail
        rw [HW.out]
        go_wp2
        go_quiet (fail)
        go_wp2
        have r2 : (W.drewN nq).heap[w.heap.size + 1 + 1]? = _ := q2
        obtain ⟨z0, z1⟩ := set2_two (u := .int .i64 0) (v := .slice none 0 0) r2
        have p0 := (cells_two z0).1
        have p1 := (cells_two z1).2.1
        refine bodyPost_ret (v := .tuple #[.agg #[.int .i64 0, .slice none 0 0], .bool false]) (by simp [results, Tryz.results13, go_sem, p0, p1]) rfl ⟨none, 0, by rw [Hp.out, Hn.out]; rfl, by rw [Hp.out]; exact ⟨by decide, by decide⟩, by rw [Hp.out]; exact .nil _ _, ?_⟩
        exact ((bl_drewN hB nq).setCell (by show _ ≤ w.heap.size + 1 + 1; omega) _).setCell (by show _ ≤ w.heap.size + 1 + 1; omega) _
      · have d1 : decide (i < 0) = false := decide_eq_false hi0
        have d2 : (t.args.length : Int) ≤ i := by omega
        have d3 : decide ((t.args.length : Int) ≤ i) = true := decide_eq_true d2
        go_enter Tryz.func13, Tryz.ntmps13
        go_upto_region 1 with fail
        rw [HW.out]
        go_wp2
        go_quiet (fail)
        go_wp2
        have r2 : (W.drewN nq).heap[w.heap.size + 1 + 1]? = _ := q2
        obtain ⟨z0, z1⟩ := set2_two (u := .int .i64 0) (v := .slice none 0 0) r2
        have p0 := (cells_two z0).1
        have p1 := (cells_two z1).2.1
        refine bodyPost_ret (v := .tuple #[.agg #[.int .i64 0, .slice none 0 0], .bool false]) (by simp [results, Tryz.results13, go_sem, p0, p1]) rfl ⟨none, 0, by rw [Hp.out, Hn.out]; rfl, by rw [Hp.out]; exact ⟨by decide, by decide⟩, by rw [Hp.out]; exact .nil _ _, ?_⟩
        exact ((bl_drewN hB nq).setCell (by show _ ≤ w.heap.size + 1 + 1; omega) _).setCell (by show _ ≤ w.heap.size + 1 + 1; omega) _
end Go.Proofs.YthgglobfkkcdgaaGreatDoor
namespace Go.Proofs.YthgglobfkkcdgaaGreatDoor
open Go Go.RowKit Go.Shelf Go.Maps
set_option maxRecDepth 100000
theorem wp_region_factsS {P : Program} {Q : Exit → Act → World → Prop} {id : Nat} {a : Act} {w : World} {l : List Oper} (n : Nat) (dl : List (List (Nat × Option Nat))) (Fs : List Fct) (hm : P.follows .mixedOrders = true) (hk : kindF n l dl = true) (hn : a.tmps.size = n)
    (h : stepsF P Fs a w.drew l dl Fs) (hf : ∀ w', Below w.drew.heap.size w.drew w' → FinS (fun a' w'' => Q .normal a' w'') w' l Fs a) : (Code.region id l.toArray true).wp P Q a w :=
  wp_region_facts n dl Fs hm hk hn h fun w' hb => (hf w' hb).go
section
variable {Fs : List Fct} {a0 : Act} {W : World} {dst : Option Tmp} {ty : TypeId} {pos : String} {after : Array Edge} {guard : Option (Nat × Bool)}
theorem st_skip {o : Oper} {j : Nat} {b : Bool} {ds : List (Nat × Option Nat)} (hg : o.guard = some (j, b)) (hF : Fs.getD j Fct.any = Fct.eq (.bool (!b))) : stepF Tryz.prog Fs a0 W o ds Fct.any :=
  .inr ⟨⟨j, b, hg, fun v w h => by rw [hF] at h; exact h⟩, fun _ => trivial⟩
theorem st_eqr {s j : Nat} {m k : Int} {b : Bool} (hg : ∀ j want, guard = some (j, want) → ∀ v w, (Fs.getD j Fct.any).p v w → v = .bool want) (hF : Fs.getD j Fct.any = Fct.eq (.int .i64 m)) (hb : (m == k) = b) :
    stepF Tryz.prog Fs a0 W ⟨dst, .binOp .eql 46 (.tmp s) (.const (.int .i64 k)) 46, ty, pos, after, guard⟩ [(s, some j)] (Fct.eq (.bool b)) := by
  refine .inl ⟨hg, fun a w hb' hl => ?_⟩
  have h0 := hl.1
  rw [hF] at h0
  have h1 := ev_get h0
  simp [go_sem, leaves, h1, hb]
  exact ⟨Below.refl _ _, rfl⟩
theorem st_pickT {s s' j j' : Nat} {x v : Value} (hg : ∀ j want, guard = some (j, want) → ∀ v w, (Fs.getD j Fct.any).p v w → v = .bool want) (hF : Fs.getD j Fct.any = Fct.eq (.bool true)) (hF' : Fs.getD j' Fct.any = Fct.eq v) :
    stepF Tryz.prog Fs a0 W ⟨dst, .pick (.tmp s) (.tmp s') (.const x), ty, pos, after, guard⟩ [(s, some j), (s', some j')] (Fct.eq v) := by
  refine .inl ⟨hg, fun a w hb hl => ?_⟩
  have h0 := hl.1
  have h0' := hl.2.1
  rw [hF] at h0
  rw [hF'] at h0'
  have h1 := ev_get h0
  have h2 := ev_get h0'
  simp [go_sem, leaves, h1, h2]
  exact ⟨Below.refl _ _, rfl⟩
theorem st_pickF {s s' j j' : Nat} {x : Value} (hg : ∀ j want, guard = some (j, want) → ∀ v w, (Fs.getD j Fct.any).p v w → v = .bool want) (hF : Fs.getD j Fct.any = Fct.eq (.bool false)) :
    stepF Tryz.prog Fs a0 W ⟨dst, .pick (.tmp s) (.tmp s') (.const x), ty, pos, after, guard⟩ [(s, some j), (s', some j')] (Fct.eq x) := by
  refine .inl ⟨hg, fun a w hb hl => ?_⟩
  have h0 := hl.1
  rw [hF] at h0
  have h1 := ev_get h0
  simp [go_sem, leaves, h1]
  exact ⟨Below.refl _ _, rfl⟩
end
def nvT (t : Tm) : Nat := ((vn t).foldl insI []).length
theorem vars_len (t : Tm) (A : Option Addr) (c : Nat) (w : World) (hf : I64 t.fn) (hl : t.size ≤ 4398046511104) (hA : Args w w.heap.size A t.args) :
    Calls Tryz.prog 12 #[.agg #[.int .i64 t.fn, .slice A t.args.length c]] w fun e w' => ∃ A c, e = .returned (.slice A (nvT t) c) ∧ Below w.heap.size w w' := by
  refine (ref2Vars_any t A c w hf hl hA).mono ?_
  rintro e w' ⟨v, rfl, ⟨A', c', rfl, _⟩, hb⟩
  exact ⟨A', c', rfl, hb⟩
end Go.Proofs.YthgglobfkkcdgaaGreatDoor
namespace Go.Proofs.YthgglobfkkcdgaaGreatDoor
open Go Go.RowKit Go.Shelf
set_option maxRecDepth 100000
def apK (t : Tm) : Fct := ⟨fun v w => ∃ A c, v = .agg #[.int .i64 t.fn, .slice A t.args.length c] ∧ TmK w t A c, fun ⟨A, c, hv, h⟩ hb => ⟨A, c, hv, h.on hb⟩⟩
section
variable {Fs : List Fct} {a0 : Act} {W : World} {dst : Option Tmp} {ty : TypeId} {pos : String} {after : Array Edge} {guard : Option (Nat × Bool)}
theorem gd_false {k : Nat} (h : Fs.getD k Fct.any = Fct.eq (.bool false)) : ∀ j want, some (k, false) = some (j, want) → ∀ v w, (Fs.getD j Fct.any).p v w → v = .bool want := by
  rintro j want e v w hp
  cases e
  rw [h] at hp
  exact hp
theorem st_moveB {s : Nat} {v : Value} (hg : ∀ j want, guard = some (j, want) → ∀ v w, (Fs.getD j Fct.any).p v w → v = .bool want) (hs : a0.eval (.tmp s) = v) : stepF Tryz.prog Fs a0 W ⟨dst, .move (.tmp s), ty, pos, after, guard⟩ [(s, none)] (Fct.eq v) := by
  refine .inl ⟨hg, fun a w hb hl => ?_⟩
  have h1 := ev_get (hl.1.trans hs)
  simp [go_sem, leaves, h1]
  exact ⟨Below.refl _ _, rfl⟩
theorem st_neqr {s j : Nat} {m k : Int} {b : Bool} (hg : ∀ j want, guard = some (j, want) → ∀ v w, (Fs.getD j Fct.any).p v w → v = .bool want) (hF : Fs.getD j Fct.any = Fct.eq (.int .i64 m)) (hb : (m != k) = b) :
    stepF Tryz.prog Fs a0 W ⟨dst, .binOp .neq 46 (.tmp s) (.const (.int .i64 k)) 46, ty, pos, after, guard⟩ [(s, some j)] (Fct.eq (.bool b)) := by
  refine .inl ⟨hg, fun a w hb' hl => ?_⟩
  have h0 := hl.1
  rw [hF] at h0
  have h1 := ev_get h0
  simp [go_sem, leaves, h1, hb]
  exact ⟨Below.refl _ _, rfl⟩
theorem st_pickO {s s' j j' : Nat} {x v : Value} (hg : ∀ j want, guard = some (j, want) → ∀ v w, (Fs.getD j Fct.any).p v w → v = .bool want) (hF : Fs.getD j Fct.any = Fct.eq (.bool false)) (hF' : Fs.getD j' Fct.any = Fct.eq v) :
    stepF Tryz.prog Fs a0 W ⟨dst, .pick (.tmp s) (.const x) (.tmp s'), ty, pos, after, guard⟩ [(s, some j), (s', some j')] (Fct.eq v) := by
  refine .inl ⟨hg, fun a w hb hl => ?_⟩
  have h0 := hl.1
  have h0' := hl.2.1
  rw [hF] at h0
  rw [hF'] at h0'
  have h1 := ev_get h0
  have h2 := ev_get h0'
  simp [go_sem, leaves, h1, h2]
  exact ⟨Below.refl _ _, rfl⟩
theorem st_ldT {s b : Nat} {x y : Value} (hW : ∀ w, Below W.heap.size W w → w.cell? ⟨b, 0, none⟩ = some x ∧ w.cell? ⟨b, 1, none⟩ = some y) (hg : ∀ j want, guard = some (j, want) → ∀ v w, (Fs.getD j Fct.any).p v w → v = .bool want) (hs : a0.eval (.tmp s) = .pointer (some ⟨b, 0, none⟩)) :
    stepF Tryz.prog Fs a0 W ⟨dst, .load 32 (.tmp s), ty, pos, after, guard⟩ [(s, none)] (Fct.eq (.agg #[x, y])) := by
  refine .inl ⟨hg, fun a w hb hl => ?_⟩
  have h1 := ev_get (hl.1.trans hs)
  obtain ⟨c0, c1⟩ := hW w hb
  simp [go_sem, leaves, h1, c0, c1]
  exact ⟨Below.refl _ _, rfl⟩
theorem st_ldO {s b : Nat} {x y z u : Value} (hW : ∀ w, Below W.heap.size W w → w.cell? ⟨b, 0, none⟩ = some x ∧ w.cell? ⟨b, 1, none⟩ = some y ∧ w.cell? ⟨b, 2, none⟩ = some z ∧ w.cell? ⟨b, 3, none⟩ = some u) (hg : ∀ j want, guard = some (j, want) → ∀ v w, (Fs.getD j Fct.any).p v w → v = .bool want) (hs : a0.eval (.tmp s) = .pointer (some ⟨b, 0, none⟩)) :
    stepF Tryz.prog Fs a0 W ⟨dst, .load 38 (.tmp s), ty, pos, after, guard⟩ [(s, none)] (Fct.eq (.agg #[x, y, z, u])) := by
  refine .inl ⟨hg, fun a w hb hl => ?_⟩
  have h1 := ev_get (hl.1.trans hs)
  obtain ⟨c0, c1, c2, c3⟩ := hW w hb
  simp [go_sem, leaves, h1, c0, c1, c2, c3]
  exact ⟨Below.refl _ _, rfl⟩
theorem st_appK {s s' j j' : Nat} {v v' : Value} {t : Tm} (hC : ∀ w, Below W.heap.size W w → Calls Tryz.prog 11 #[v, v'] w fun e w' => ∃ A' c', e = .returned (.agg #[.int .i64 t.fn, .slice A' t.args.length c']) ∧ TmK w' t A' c' ∧ Below w.heap.size w w') (hg : ∀ j want, guard = some (j, want) → ∀ v w, (Fs.getD j Fct.any).p v w → v = .bool want) (hF : Fs.getD j Fct.any = Fct.eq v) (hF' : Fs.getD j' Fct.any = Fct.eq v') :
    stepF Tryz.prog Fs a0 W ⟨dst, .call ⟨.value (.func 11), #[.tmp s, .tmp s'], #[34, 32]⟩, ty, pos, after, guard⟩ [(s, some j), (s', some j')] (apK t) := by
  refine .inl ⟨hg, fun a w hb hl => ?_⟩
  obtain ⟨h0, h0', _⟩ := hl
  rw [hF] at h0
  rw [hF'] at h0'
  have h1 := ev_get h0
  have h2 := ev_get h0'
  simp [go_sem, leaves, h1, h2]
  refine (hC w hb).mono fun e w' ⟨A, c, he, hK, hw⟩ => ?_
  exact ⟨_, he, hw, A, c, rfl, hK⟩
theorem st_cmpA {s s' s'' j j' j'' : Nat} {v : Value} {x y : Tm} {k : Int} (hC : ∀ (w : World) (B B2 : Option Addr) (d d2 : Nat), Below W.heap.size W w → TmK w x B d → TmK w y B2 d2 → Calls Tryz.prog 8 #[v, .agg #[.int .i64 x.fn, .slice B x.args.length d], .agg #[.int .i64 y.fn, .slice B2 y.args.length d2]] w fun e w' => e = .returned (.int .i64 k) ∧ Below w.heap.size w w') (hg : ∀ j want, guard = some (j, want) → ∀ v w, (Fs.getD j Fct.any).p v w → v = .bool want) (hF : Fs.getD j Fct.any = Fct.eq v) (hF' : Fs.getD j' Fct.any = apK x) (hF'' : Fs.getD j'' Fct.any = apK y) :
    stepF Tryz.prog Fs a0 W ⟨dst, .call ⟨.value (.func 8), #[.tmp s, .tmp s', .tmp s''], #[38, 32, 32]⟩, ty, pos, after, guard⟩ [(s, some j), (s', some j'), (s'', some j'')] (Fct.eq (.int .i64 k)) := by
  refine .inl ⟨hg, fun a w hb hl => ?_⟩
  obtain ⟨h0, h0', h0'', _⟩ := hl
  rw [hF] at h0
  rw [hF'] at h0'
  rw [hF''] at h0''
  obtain ⟨B, d, hv, hK⟩ := h0'
  obtain ⟨B2, d2, hv2, hK2⟩ := h0''
  have h1 := ev_get h0
  have h2 := ev_get hv
  have h3 := ev_get hv2
  simp [go_sem, leaves, h1, h2, h3]
  refine (hC w B B2 d d2 hb hK hK2).mono fun e w' ⟨he, hw⟩ => ?_
  exact ⟨_, he, hw, rfl⟩
end
end Go.Proofs.YthgglobfkkcdgaaGreatDoor
namespace Go.Proofs.YthgglobfkkcdgaaGreatDoor
open Go Go.RowKit Go.Shelf
set_option maxRecDepth 100000
structure TopB (w1 : World) (h : Nat) (sy : List Sm) (x y z : Tm) (lpo top : Bool) (b wb : Int) (As A A2 A3 : Option Addr) (cs c c2 c3 : Nat) : Prop where
  s0 : w1.cell? ⟨h, 0, none⟩ = some (.slice As sy.length cs)
  g0 : w1.cell? ⟨h + 1, 0, none⟩ = some (.bool lpo)
  g1 : w1.cell? ⟨h + 1, 1, none⟩ = some (.int .i64 b)
  g2 : w1.cell? ⟨h + 1, 2, none⟩ = some (.int .i64 wb)
  g3 : w1.cell? ⟨h + 1, 3, none⟩ = some (.bool top)
  x0 : w1.cell? ⟨h + 1 + 1, 0, none⟩ = some (.int .i64 x.fn)
  x1 : w1.cell? ⟨h + 1 + 1, 1, none⟩ = some (.slice A x.args.length c)
  y0 : w1.cell? ⟨h + 1 + 1 + 1, 0, none⟩ = some (.int .i64 y.fn)
  y1 : w1.cell? ⟨h + 1 + 1 + 1, 1, none⟩ = some (.slice A2 y.args.length c2)
  z0 : w1.cell? ⟨h + 1 + 1 + 1 + 1, 0, none⟩ = some (.int .i64 z.fn)
  z1 : w1.cell? ⟨h + 1 + 1 + 1 + 1, 1, none⟩ = some (.slice A3 z.args.length c3)
theorem topB_of {w W : World} {sy : List Sm} {x y z : Tm} {lpo top : Bool} {b wb : Int} {As A A2 A3 : Option Addr} {cs c c2 c3 : Nat} (hW : (((((w.alloc (.cells #[.slice As sy.length cs] 24)).alloc (.cells #[.bool lpo, .int .i64 b, .int .i64 wb, .bool top] 29)).alloc (.cells #[.int .i64 x.fn, .slice A x.args.length c] 32)).alloc (.cells #[.int .i64 y.fn, .slice A2 y.args.length c2] 32)).alloc (.cells #[.int .i64 z.fn, .slice A3 z.args.length c3] 32)) = W) :
    Below w.heap.size w W ∧ ∀ w1, Below W.heap.size W w1 → TopB w1 w.heap.size sy x y z lpo top b wb As A A2 A3 cs c c2 c3 := by
  obtain ⟨q0, q1, q2, q3, q4⟩ := heap5 w (.cells #[.slice As sy.length cs] 24) (.cells #[.bool lpo, .int .i64 b, .int .i64 wb, .bool top] 29) (.cells #[.int .i64 x.fn, .slice A x.args.length c] 32) (.cells #[.int .i64 y.fn, .slice A2 y.args.length c2] 32) (.cells #[.int .i64 z.fn, .slice A3 z.args.length c3] 32)
  have hB := below5 w (.cells #[.slice As sy.length cs] 24) (.cells #[.bool lpo, .int .i64 b, .int .i64 wb, .bool top] 29) (.cells #[.int .i64 x.fn, .slice A x.args.length c] 32) (.cells #[.int .i64 y.fn, .slice A2 y.args.length c2] 32) (.cells #[.int .i64 z.fn, .slice A3 z.args.length c3] 32)
  rw [hW] at q0 q1 q2 q3 q4 hB
  refine ⟨hB, fun w1 h => ?_⟩
  have k := fun {i : Nat} {ob : Obj} (e : W.heap[i]? = some ob) => (h.block i (Array.getElem?_eq_some_iff.1 e).1).trans e
  obtain ⟨b0, b1, b2, b3⟩ := cells_four (k q1)
  obtain ⟨c0, c1, _, _⟩ := cells_two (k q2)
  obtain ⟨d0, d1, _, _⟩ := cells_two (k q3)
  obtain ⟨e0, e1, _, _⟩ := cells_two (k q4)
  exact ⟨(cells_one (k q0)).1, b0, b1, b2, b3, c0, c1, d0, d1, e0, e1⟩
structure TopO (w1 : World) (g : Nat) (o : Odr) (P Q : Option Addr) : Prop where
  o0 : w1.cell? ⟨g, 0, none⟩ = some (.bool o.lpo)
  o1 : w1.cell? ⟨g, 1, none⟩ = some (.slice P o.prec.length o.prec.length)
  o2 : w1.cell? ⟨g, 2, none⟩ = some (.slice Q o.wts.length o.wts.length)
  o3 : w1.cell? ⟨g, 3, none⟩ = some (.int .i64 o.var)
theorem mkO_rows {l : List Sm} {n : List Int} {lpo top : Bool} {b wb : Int} (h : l.length ≤ 96) : (mkO l n lpo top b wb).prec.length ≤ 140737488351232 := by
  rw [mkO_prec, rkL_len]; omega
set_option maxHeartbeats 16000000 in
theorem topOrders_of (sy : List Sm) (cl : List (List Lp)) (b wb : Int) (lpo top : Bool) (x y z : Tm) (l : List Bd) (As Aq A A2 A3 C : Option Addr) (cs cq c c2 c3 cc : Nat) (w : World) (hS : Syms w w.heap.size As sy.length sy) (hn : sy.length * 32 ≤ 140737488351232) (ht : tru w) (hC : ClRow w (· < w.heap.size) Aq cl) (hz : (itms cl).length ≤ 281474976710656)
    (hx : TmK w x A c) (hy : TmK w y A2 c2) (hzt : TmK w z A3 c3) (hzx : x.size ≤ 1048576) (hzy : y.size ≤ 1048576) (hzz : z.size ≤ 1048576) (hP : Binds w (· < w.heap.size) C l) (hzp : ∀ u ∈ l, u.t.size ≤ 1048576) (hll : l.length ≤ 1048576) :
    Calls Tryz.prog 3 #[.agg #[.slice As sy.length cs], .slice Aq cl.length cq, .agg #[.bool lpo, .int .i64 b, .int .i64 wb, .bool top], .agg #[.int .i64 x.fn, .slice A x.args.length c], .agg #[.int .i64 y.fn, .slice A2 y.args.length c2], .agg #[.int .i64 z.fn, .slice A3 z.args.length c3], .slice C l.length cc] w fun e w' => e = .returned (.bool true) ∧ Below w.heap.size w w' := by
  obtain ⟨W, hW⟩ : ∃ W, (((((w.alloc (.cells #[.slice As sy.length cs] 24)).alloc (.cells #[.bool lpo, .int .i64 b, .int .i64 wb, .bool top] 29)).alloc (.cells #[.int .i64 x.fn, .slice A x.args.length c] 32)).alloc (.cells #[.int .i64 y.fn, .slice A2 y.args.length c2] 32)).alloc (.cells #[.int .i64 z.fn, .slice A3 z.args.length c3] 32)) = W := ⟨_, rfl⟩
  obtain ⟨hB, hX⟩ := topB_of hW
  have HW := Lib.hid hW
  have HX := Lib.hid hX
  have HB := Lib.hid hB
  have HT := Lib.hid (tru_below ht hB)
  have HS := Lib.hid (hS.on hB)
  have HC := Lib.hid (hC.on hB)
  have HKx := Lib.hid (hx.on hB)
  have HKy := Lib.hid (hy.on hB)
  have HKz := Lib.hid (hzt.on hB)
  have HP : Hid (Binds W (· < W.heap.size) C l) := Lib.hid ((hP.keep fun g e => hB.block g e).wide fun _ e => Nat.lt_of_lt_of_le e hB.size)
  have HO0 : Hid (∀ w1, Below W.heap.size W w1 → Calls Tryz.prog 4 #[] w1 fun e w' => e = .returned (.bool true) ∧ Below w1.heap.size w1 w') := Lib.hid fun w1 h => topOrders0_any w1 (tru_below HT.out h)
  have HFin : Hid (∀ w1 w2, Below W.heap.size W w1 → Below w1.heap.size w1 w2 → Below w.heap.size w w2) := Lib.hid fun w1 w2 h1 h2 => HB.out.trans ((bl_step h1 h2).mono HB.out.size)
  obtain ⟨x0, x1, x2, x3, x4, x5, x6, x7, x8, x9, x10⟩ := HX.out W (Below.refl _ _)
  clear hW hX hB ht hS hC hx hy hzt hP
  by_cases h20 : 20 < cl.length
  · have g20 : decide ((cl.length : Int) > 20) = true := decide_eq_true (by omega)
    clear h20
    go_enter Tryz.func3, Tryz.ntmps3
    go_upto_region 1 with fail
    rw [HW.out]
    go_wp2_with (first
      | (go_at_call 4; (with_reducible refine (HO0.out _ (Below.refl _ _)).mono ?_); go_must (rintro e w9 ⟨rfl, hb9⟩))
      | fail)
    go_ret
    exact ⟨ret_bool rfl, HFin.out _ _ (Below.refl _ _) hb9⟩
  have g20 : decide ((cl.length : Int) > 20) = false := decide_eq_false (by omega)
  clear h20
  by_cases hbad : cntNo sy cl = true ∨ nameB b wb = false
  · have HMk := Lib.hid (mk_no sy cl b wb lpo top As Aq cs cq W hbad HS.out hn HT.out HC.out hz)
    clear hbad
    go_enter Tryz.func3, Tryz.ntmps3
    go_upto_region 1 with fail
    rw [HW.out]
    go_upto_region 4 with (first
      | (go_at_call 5; (with_reducible refine HMk.out.mono ?_); go_must (rintro e w1 ⟨rfl, hb1⟩; have HB1 := Lib.hid hb1; clear hb1))
      | fail)
    obtain ⟨W2, hW2⟩ : ∃ W2, w1.alloc (.cells #[.bool false, .slice none 0 0, .slice none 0 0, .int .i64 0] 38) = W2 := ⟨_, rfl⟩
    have hb2 : Below w1.heap.size w1 W2 := by rw [← hW2]; exact (Below.refl _ _).alloc (Nat.le_refl _) _
    have HB2 := Lib.hid (bl_step HB1.out hb2)
    have HW2 := Lib.hid hW2
    clear hW2 hb2 x0 x1 x2 x3 x4 x5 x6 x7 x8 x9 x10
    rw [HW2.out]
    go_wp2_with (first
      | (go_at_call 4; (with_reducible refine (HO0.out _ HB2.out).mono ?_); go_must (rintro e w9 ⟨rfl, hb9⟩))
      | fail)
    go_ret
    exact ⟨ret_bool rfl, HFin.out _ _ HB2.out hb9⟩
  have hno : cntNo sy cl = false := by cases h : cntNo sy cl with | true => exact absurd (.inl h) hbad | false => rfl
  have hnm : nameB b wb = true := by cases h : nameB b wb with | false => exact absurd (.inr h) hbad | true => rfl
  have hb0 : checkI sy = 0 ∧ okI sy (itms cl) = true := by unfold cntNo at hno; simpa using hno
  have hcn : ∀ f, 0 ≤ cnP (cntN sy cl) f := fun f => (cntN_le hz hb0.2 f).1
  have hmay := mkO_may (lpo := lpo) (top := top) (b := b) (wb := wb) hb0.1 hcn
  have hrk := mkO_rows (l := sy) (n := cntN sy cl) (lpo := lpo) (top := top) (b := b) (wb := wb) (chk_one hb0.1).1
  have HMk := Lib.hid (mk_yes sy cl b wb lpo top As Aq cs cq W hno hnm HS.out hn HT.out HC.out hz)
  obtain ⟨o, ho⟩ : ∃ o, mkO sy (cntN sy cl) lpo top b wb = o := ⟨_, rfl⟩
  rw [ho] at hmay hrk HMk
  have HMay := Lib.hid hmay
  clear hbad hno hnm hb0 hcn hmay ho
  go_enter Tryz.func3, Tryz.ntmps3
  go_upto_region 1 with fail
  rw [HW.out]
  go_upto_region 4 with (first
    | (go_at_call 5; (with_reducible refine HMk.out.mono ?_); go_must (rintro e w1 ⟨P, Q, rfl, hb1, hM⟩; have HB1 := Lib.hid hb1; have HM1 := Lib.hid hM; clear hb1 hM))
    | fail)
  clear x0 x1 x2 x3 x4 x5 x6 x7 x8 x9 x10
  obtain ⟨V, hV⟩ : ∃ V, w1.alloc (.cells #[.bool o.lpo, .slice P o.prec.length o.prec.length, .slice Q o.wts.length o.wts.length, .int .i64 o.var] 38) = V := ⟨_, rfl⟩
  have hbV : Below w1.heap.size w1 V := by rw [← hV]; exact (Below.refl _ _).alloc (Nat.le_refl _) _
  have qV : V.heap[w1.heap.size]? = some (.cells #[.bool o.lpo, .slice P o.prec.length o.prec.length, .slice Q o.wts.length o.wts.length, .int .i64 o.var] 38) := by rw [← hV]; exact heap_alloc_new _ _
  have HBV := Lib.hid (bl_step HB1.out hbV)
  have HM := Lib.hid (HM1.out.on hbV)
  have HV := Lib.hid hV
  have HQ : Hid (∀ w1', Below V.heap.size V w1' → TopB w1' w.heap.size sy x y z lpo top b wb As A A2 A3 cs c c2 c3 ∧ TopO w1' w1.heap.size o P Q) := Lib.hid fun w1' h => by
    obtain ⟨o0, o1, o2, o3⟩ := cells_four ((h.block _ (Array.getElem?_eq_some_iff.1 qV).1).trans qV)
    exact ⟨HX.out w1' (HBV.out.trans (h.mono HBV.out.size)), o0, o1, o2, o3⟩
  have HS' := Lib.hid (HS.out.on HBV.out)
  have HKx' := Lib.hid (HKx.out.on HBV.out)
  have HKy' := Lib.hid (HKy.out.on HBV.out)
  have HKz' := Lib.hid (HKz.out.on HBV.out)
  have HP' : Hid (Binds V (· < V.heap.size) C l) := Lib.hid ((HP.out.keep fun g e => HBV.out.block g e).wide fun _ e => Nat.lt_of_lt_of_le e HBV.out.size)
  have HO : Hid (∀ w1', Below V.heap.size V w1' → Calls Tryz.prog 4 #[] w1' fun e w' => e = .returned (.bool true) ∧ Below w1'.heap.size w1' w') := Lib.hid fun w1' h => HO0.out w1' (HBV.out.trans (h.mono HBV.out.size))
  have HFi : Hid (∀ w1' w2', Below V.heap.size V w1' → Below w1'.heap.size w1' w2' → Below w.heap.size w w2') := Lib.hid fun w1' w2' h1 h2 => HFin.out _ _ (HBV.out.trans (h1.mono HBV.out.size)) h2
  have HPr : Hid (∀ (u : Tm) (B : Option Addr) (d : Nat) (w1' : World), Below V.heap.size V w1' → I64 u.fn → Args w1' w1'.heap.size B u.args → u.size ≤ 1048576 → Calls Tryz.prog 6 #[.agg #[.slice As sy.length cs], .agg #[.int .i64 u.fn, .slice B u.args.length d]] w1' fun e w' => e = .returned (.bool (prB sy u)) ∧ Below w1'.heap.size w1' w') := Lib.hid fun u B d w1' h hi hA hu => proper_any sy u As B sy.length cs d w1' (by omega) (HS'.out.on h) hn hi hA
  have HCm : Hid (∀ (u v : Tm) (B B2 : Option Addr) (d d2 : Nat) (w1' : World), Below V.heap.size V w1' → TmK w1' u B d → TmK w1' v B2 d2 → u.size + v.size ≤ 1073741824 → Calls Tryz.prog 8 #[.agg #[.bool o.lpo, .slice P o.prec.length o.prec.length, .slice Q o.wts.length o.wts.length, .int .i64 o.var], .agg #[.int .i64 u.fn, .slice B u.args.length d], .agg #[.int .i64 v.fn, .slice B2 v.args.length d2]] w1' fun e w' => e = .returned (.int .i64 (ordV o u v)) ∧ Below w1'.heap.size w1' w') := Lib.hid fun u v B B2 d d2 w1' h hu hv hs => oCmp_any o u v P Q B B2 _ _ d d2 w1' hrk (HM.out.on h) hu hv hs
  have HK4 := Lib.hid fun (w1' : World) (h : Below V.heap.size V w1') => refSubCheck_any l C cc w1' (by omega) ((HP'.out.keep fun g e => h.block g e).wide fun _ e => Nat.lt_of_lt_of_le e h.size)
  clear hV hbV qV HB1 HM1 HMk HO0 HFin HC HX HS HKx HKy HKz HP
  have r1 := Lib.hid fun (w1' : World) (h : Below V.heap.size V w1') => HPr.out x A c w1' h HKx'.out.i64 (HKx'.out.on h).args.toA hzx
  have r2 := Lib.hid fun (w1' : World) (h : Below V.heap.size V w1') => HPr.out y A2 c2 w1' h HKy'.out.i64 (HKy'.out.on h).args.toA hzy
  have r3 := Lib.hid fun (w1' : World) (h : Below V.heap.size V w1') => HPr.out z A3 c3 w1' h HKz'.out.i64 (HKz'.out.on h).args.toA hzz
  rw [HV.out]
  obtain ⟨⟨x0, x1, x2, x3, x4, x5, x6, x7, x8, x9, x10⟩, o0, o1, o2, o3⟩ := HQ.out V (Below.refl _ _)
  cases hp1 : prB sy x with
  | false =>
    rw [hp1] at r1
    clear hp1
    go_wp2_with (first
      | (go_at_call 6; (with_reducible refine (r1.out _ (Below.refl _ _)).mono ?_); go_must (rintro e w2 ⟨rfl, hb2⟩; have hB2 := hb2; obtain ⟨⟨y0, y1, y2, y3, y4, y5, y6, y7, y8, y9, y10⟩, u0, u1, u2, u3⟩ := HQ.out w2 hB2))
      | (go_at_call 4; (with_reducible refine (HO.out w2 hB2).mono ?_); go_must (rintro e w9 ⟨rfl, hb9⟩))
      | fail)
    go_ret
    exact ⟨ret_bool rfl, HFi.out _ _ hB2 hb9⟩
  | true =>
    rw [hp1] at r1
    have Hp1 := Lib.hid (prB_yes hp1)
    clear hp1
    cases hp2 : prB sy y with
    | false =>
      rw [hp2] at r2
      clear hp2
      go_wp2_with (first
        | (go_at_call 6; (with_reducible refine (r1.out _ (Below.refl _ _)).mono ?_); go_must (rintro e w2 ⟨rfl, hb2⟩; have hB2 := hb2; obtain ⟨⟨y0, y1, y2, y3, y4, y5, y6, y7, y8, y9, y10⟩, u0, u1, u2, u3⟩ := HQ.out w2 hB2))
        | (go_at_call 6; (with_reducible refine (r2.out w2 hB2).mono ?_); go_must (rintro e w3 ⟨rfl, hb3⟩; have hB3 := bl_step hB2 hb3; obtain ⟨⟨z0, z1, z2, z3, z4, z5, z6, z7, z8, z9, z10⟩, v0, v1, v2, v3⟩ := HQ.out w3 hB3))
        | (go_at_call 4; (with_reducible refine (HO.out w3 hB3).mono ?_); go_must (rintro e w9 ⟨rfl, hb9⟩))
        | fail)
      go_ret
      exact ⟨ret_bool rfl, HFi.out _ _ hB3 hb9⟩
    | true =>
      rw [hp2] at r2
      have Hp2 := Lib.hid (prB_yes hp2)
      clear hp2
      cases hp3 : prB sy z with
      | false =>
        rw [hp3] at r3
        clear hp3
        go_wp2_with (first
          | (go_at_call 6; (with_reducible refine (r1.out _ (Below.refl _ _)).mono ?_); go_must (rintro e w2 ⟨rfl, hb2⟩; have hB2 := hb2; obtain ⟨⟨y0, y1, y2, y3, y4, y5, y6, y7, y8, y9, y10⟩, u0, u1, u2, u3⟩ := HQ.out w2 hB2))
          | (go_at_call 6; (with_reducible refine (r2.out w2 hB2).mono ?_); go_must (rintro e w3 ⟨rfl, hb3⟩; have hB3 := bl_step hB2 hb3; obtain ⟨⟨z0, z1, z2, z3, z4, z5, z6, z7, z8, z9, z10⟩, v0, v1, v2, v3⟩ := HQ.out w3 hB3))
          | (go_at_call 6; (with_reducible refine (r3.out w3 hB3).mono ?_); go_must (rintro e w4 ⟨rfl, hb4⟩; have hB4 := bl_step hB3 hb4))
          | (go_at_call 4; (with_reducible refine (HO.out w4 hB4).mono ?_); go_must (rintro e w9 ⟨rfl, hb9⟩))
          | fail)
        go_ret
        exact ⟨ret_bool rfl, HFi.out _ _ hB4 hb9⟩
      | true =>
        rw [hp3] at r3
        have Hp3 := Lib.hid (prB_yes hp3)
        clear hp3
        by_cases hck : chkN l = 0
        case neg =>
          obtain ⟨rr, hrr⟩ : ∃ rr, chkN l = rr := ⟨_, rfl⟩
          have hr0 : ((rr : Int) != 0) = true := by rw [← hrr]; simpa using hck
          rw [hrr] at HK4
          clear hrr hck
          go_wp2_with (first
            | (go_at_call 6; (with_reducible refine (r1.out _ (Below.refl _ _)).mono ?_); go_must (rintro e w2 ⟨rfl, hb2⟩; have hB2 := hb2; obtain ⟨⟨y0, y1, y2, y3, y4, y5, y6, y7, y8, y9, y10⟩, u0, u1, u2, u3⟩ := HQ.out w2 hB2))
            | (go_at_call 6; (with_reducible refine (r2.out w2 hB2).mono ?_); go_must (rintro e w3 ⟨rfl, hb3⟩; have hB3 := bl_step hB2 hb3; obtain ⟨⟨z0, z1, z2, z3, z4, z5, z6, z7, z8, z9, z10⟩, v0, v1, v2, v3⟩ := HQ.out w3 hB3))
            | (go_at_call 6; (with_reducible refine (r3.out w3 hB3).mono ?_); go_must (rintro e w4 ⟨rfl, hb4⟩; have hB4 := bl_step hB3 hb4))
            | (go_at_call 7; (with_reducible refine (HK4.out w4 hB4).mono ?_); go_must (rintro e w5 ⟨rfl, hb5⟩; have hB5 := bl_step hB4 hb5))
            | (go_at_call 4; (with_reducible refine (HO.out w5 hB5).mono ?_); go_must (rintro e w9 ⟨rfl, hb9⟩))
            | fail)
          go_ret
          exact ⟨ret_bool rfl, HFi.out _ _ hB5 hb9⟩
        case pos =>
          rw [hck] at HK4
          clear hck
          by_cases h48 : 48 < l.length
          case pos =>
            have g48 : decide ((l.length : Int) > 48) = true := decide_eq_true (by omega)
            clear h48
            go_wp2_with (first
              | (go_at_call 6; (with_reducible refine (r1.out _ (Below.refl _ _)).mono ?_); go_must (rintro e w2 ⟨rfl, hb2⟩; have hB2 := hb2; obtain ⟨⟨y0, y1, y2, y3, y4, y5, y6, y7, y8, y9, y10⟩, u0, u1, u2, u3⟩ := HQ.out w2 hB2))
              | (go_at_call 6; (with_reducible refine (r2.out w2 hB2).mono ?_); go_must (rintro e w3 ⟨rfl, hb3⟩; have hB3 := bl_step hB2 hb3; obtain ⟨⟨z0, z1, z2, z3, z4, z5, z6, z7, z8, z9, z10⟩, v0, v1, v2, v3⟩ := HQ.out w3 hB3))
              | (go_at_call 6; (with_reducible refine (r3.out w3 hB3).mono ?_); go_must (rintro e w4 ⟨rfl, hb4⟩; have hB4 := bl_step hB3 hb4))
              | (go_at_call 7; (with_reducible refine (HK4.out w4 hB4).mono ?_); go_must (rintro e w5 ⟨rfl, hb5⟩; have hB5 := bl_step hB4 hb5))
              | (go_at_call 4; (with_reducible refine (HO.out w5 hB5).mono ?_); go_must (rintro e w9 ⟨rfl, hb9⟩))
              | fail)
            go_ret
            exact ⟨ret_bool rfl, HFi.out _ _ hB5 hb9⟩
          case neg =>
            have g48 : decide ((l.length : Int) > 48) = false := decide_eq_false (by omega)
            go_wp2_with (first
              | (go_at_call 6; (with_reducible refine (r1.out _ (Below.refl _ _)).mono ?_); go_must (rintro e w2 ⟨rfl, hb2⟩; have hB2 := hb2; obtain ⟨⟨y0, y1, y2, y3, y4, y5, y6, y7, y8, y9, y10⟩, u0, u1, u2, u3⟩ := HQ.out w2 hB2))
              | (go_at_call 6; (with_reducible refine (r2.out w2 hB2).mono ?_); go_must (rintro e w3 ⟨rfl, hb3⟩; have hB3 := bl_step hB2 hb3; obtain ⟨⟨z0, z1, z2, z3, z4, z5, z6, z7, z8, z9, z10⟩, v0, v1, v2, v3⟩ := HQ.out w3 hB3))
              | (go_at_call 6; (with_reducible refine (r3.out w3 hB3).mono ?_); go_must (rintro e w4 ⟨rfl, hb4⟩; have hB4 := bl_step hB3 hb4))
              | (go_at_call 7; (with_reducible refine (HK4.out w4 hB4).mono ?_); go_must (rintro e w5 ⟨rfl, hb5⟩; have hB5 := bl_step hB4 hb5))
              | fail)
            clear x0 x1 x2 x3 x4 x5 x6 x7 x8 x9 x10 o0 o1 o2 o3 y0 y1 y2 y3 y4 y5 y6 y7 y8 y9 y10 u0 u1 u2 u3 z0 z1 z2 z3 z4 z5 z6 z7 z8 z9 z10 v0 v1 v2 v3
            have hx30 := Hp1.out.2
            have hy30 := Hp2.out.2
            have hz30 := Hp3.out.2
            clear r1 r2 r3 HK4 h48
            go_loopw [69] (fun i wr => ∃ k : Nat, k ≤ l.length ∧ i = .int .i64 (k : Int) ∧ Below V.heap.size V wr ∧ Hid (∀ u ∈ l.take k, prB sy u.t = true)) (fun i _ => l.length - (intOf i).toNat)
            case atStart => exact ⟨0, Nat.zero_le _, rfl, hB5, Lib.hid fun u hu => by simp at hu⟩
            case round =>
              obtain ⟨k, hk, rfl, hBr, Hn⟩ := hrel
              by_cases hlt : k < l.length
              · obtain ⟨q, hq⟩ : ∃ q, l[k]? = some q := ⟨_, List.getElem?_eq_getElem hlt⟩
                obtain ⟨bb, off, A', c', rfl, h⟩ := HP'.out.get hq
                have hwr1 : IntKind.i64.wrap ((k : Int) + 1) = (k : Int) + 1 := by rw [IntKind.wrap_i64]; omega
                have hqz := hzp q (List.mem_of_getElem? hq)
                have hBz := fun zz : Later wr.heap.size wr => hBr.trans (zz.h.mono hBr.size)
                have m0 := fun zz : Later wr.heap.size wr => (HQ.out zz.w (hBz zz)).1.s0
                have m1 := fun zz : Later wr.heap.size wr => cell_on (hBz zz) h.hb h.c1
                have m2 := fun zz : Later wr.heap.size wr => cell_on (hBz zz) h.hb h.c2
                have H1 := Lib.hid fun zz : Later wr.heap.size wr => HPr.out q.t A' c' zz.w (hBz zz) h.it ((h.sub.keep fun g e => (hBz zz).block g e).args fun g e => Nat.lt_of_lt_of_le e (hBz zz).size) hqz
                have Hq := Lib.hid hq
                obtain ⟨pq, hpq⟩ : ∃ pq, prB sy q.t = pq := ⟨_, rfl⟩
                rw [hpq] at H1
                have hyes : Hid (pq = true → ∀ u ∈ l.take (k + 1), prB sy u.t = true) := Lib.hid fun h1 u hu => by
                  rw [List.take_add_one, Hq.out] at hu
                  rcases List.mem_append.1 hu with hu | hu
                  · exact Hn.out u hu
                  · simp at hu; subst hu; rw [hpq]; exact h1
                clear hq h hqz hBz hpq
                go_upto_region 9 with fail
                cases pq with
                | false =>
                  refine wp_region_later wr.heap.size wr (by kernel_rfl) (by kernel_rfl) (bl_drewN (Below.refl _ _) 1) ?_
                  repeat (go_big_quiet_step (first
                    | (go_at_call 6; with_reducible refine calls_later _ (Nat.le_refl _) (H1.out _))
                    | fail))
                  refine wpQuiet_nil ?_
                  rintro _ ⟨zz, rfl⟩
                  have hbe := hBr.trans (zz.h.mono hBr.size)
                  clear m0 m1 m2
                  go_wp2_with (first
                    | (go_at_call 4; (with_reducible refine (HO.out _ hbe).mono ?_); go_must (rintro e w9 ⟨rfl, hb9⟩))
                    | fail)
                  go_ret
                  exact ⟨ret_bool rfl, HFi.out _ _ hbe hb9⟩
                | true =>
                  have HY := Lib.hid (hyes.out rfl)
                  refine wp_region_later wr.heap.size wr (by kernel_rfl) (by kernel_rfl) (bl_drewN (Below.refl _ _) 1) ?_
                  repeat (go_big_quiet_step (first
                    | (go_at_call 6; with_reducible refine calls_later _ (Nat.le_refl _) (H1.out _))
                    | fail))
                  refine wpQuiet_nil ?_
                  rintro _ ⟨zz, rfl⟩
                  have hbe := hBr.trans (zz.h.mono hBr.size)
                  clear m0 m1 m2
                  go_wp2
                  go_roundw
                  case rel => exact ⟨k + 1, by omega, by go_num, hbe, HY⟩
                  case measure => simp [intOf]; omega
              obtain rfl : k = l.length := by omega
              have hall := Hn.out
              rw [List.take_length] at hall
              have hsg : ∀ u ∈ l, GdT sy u.t ∧ u.t.size ≤ 30 := fun u hu => ⟨chkP_gd (prB_yes (hall u hu)).1, (prB_yes (hall u hu)).2⟩
              have gx : GdT sy x := chkP_gd Hp1.out.1
              have gy : GdT sy y := chkP_gd Hp2.out.1
              have gz : GdT sy z := chkP_gd Hp3.out.1
              have ax := app_gd hsg gx (by omega)
              have ay := app_gd hsg gy (by omega)
              have sx := app_sz30 (l := l) (fun u hu => (hsg u hu).2) x
              have sy' := app_sz30 (l := l) (fun u hu => (hsg u hu).2) y
              obtain ⟨a, ha⟩ : ∃ a, ordV o x y = a := ⟨_, rfl⟩
              obtain ⟨bc, hbc⟩ : ∃ bc, ordV o y z = bc := ⟨_, rfl⟩
              obtain ⟨cd, hcd⟩ : ∃ cd, ordV o x z = cd := ⟨_, rfl⟩
              have HTr : Hid (a = 3 → bc = 3 → cd = 3) := Lib.hid fun e1 e2 => by rw [← hcd]; exact ord_trans HMay.out gx gy gz (ha.trans e1) (hbc.trans e2)
              have HAp : Hid (a = 3 → ordV o (appT (bdT l) x) (appT (bdT l) y) = 3) := Lib.hid fun e1 => ordV_app HMay.out hsg gx gy ax ay (ha.trans e1)
              have HTo : Hid (nvT x = 0 → nvT y = 0 → ((a : Int) == 0) = false) := Lib.hid fun e1 e2 => by
                have h1 := ord_tot HMay.out gx gy (vn_grd x (fold_ne _ _ (List.eq_nil_of_length_eq_zero e1)).1) (vn_grd y (fold_ne _ _ (List.eq_nil_of_length_eq_zero e2)).1)
                rw [ha] at h1
                simpa using h1
              have Exy : Hid (∀ w1', Below V.heap.size V w1' → Calls Tryz.prog 8 #[.agg #[.bool o.lpo, .slice P o.prec.length o.prec.length, .slice Q o.wts.length o.wts.length, .int .i64 o.var], .agg #[.int .i64 x.fn, .slice A x.args.length c], .agg #[.int .i64 y.fn, .slice A2 y.args.length c2]] w1' fun e w' => e = .returned (.int .i64 a) ∧ Below w1'.heap.size w1' w') := Lib.hid fun w1' h => by rw [← ha]; exact HCm.out x y A A2 c c2 w1' h (HKx'.out.on h) (HKy'.out.on h) (by omega)
              have Eyz : Hid (∀ w1', Below V.heap.size V w1' → Calls Tryz.prog 8 #[.agg #[.bool o.lpo, .slice P o.prec.length o.prec.length, .slice Q o.wts.length o.wts.length, .int .i64 o.var], .agg #[.int .i64 y.fn, .slice A2 y.args.length c2], .agg #[.int .i64 z.fn, .slice A3 z.args.length c3]] w1' fun e w' => e = .returned (.int .i64 bc) ∧ Below w1'.heap.size w1' w') := Lib.hid fun w1' h => by rw [← hbc]; exact HCm.out y z A2 A3 c2 c3 w1' h (HKy'.out.on h) (HKz'.out.on h) (by omega)
              have Exz : Hid (∀ w1', Below V.heap.size V w1' → Calls Tryz.prog 8 #[.agg #[.bool o.lpo, .slice P o.prec.length o.prec.length, .slice Q o.wts.length o.wts.length, .int .i64 o.var], .agg #[.int .i64 x.fn, .slice A x.args.length c], .agg #[.int .i64 z.fn, .slice A3 z.args.length c3]] w1' fun e w' => e = .returned (.int .i64 cd) ∧ Below w1'.heap.size w1' w') := Lib.hid fun w1' h => by rw [← hcd]; exact HCm.out x z A A3 c c3 w1' h (HKx'.out.on h) (HKz'.out.on h) (by omega)
              have Exx : Hid (∀ w1', Below V.heap.size V w1' → Calls Tryz.prog 8 #[.agg #[.bool o.lpo, .slice P o.prec.length o.prec.length, .slice Q o.wts.length o.wts.length, .int .i64 o.var], .agg #[.int .i64 x.fn, .slice A x.args.length c], .agg #[.int .i64 x.fn, .slice A x.args.length c]] w1' fun e w' => e = .returned (.int .i64 2) ∧ Below w1'.heap.size w1' w') := Lib.hid fun w1' h => by rw [← ord_self HMay.out gx]; exact HCm.out x x A A c c w1' h (HKx'.out.on h) (HKx'.out.on h) (by omega)
              obtain ⟨ta, hta⟩ : ∃ ta, turnI a = ta := ⟨_, rfl⟩
              have Eyx : Hid (∀ w1', Below V.heap.size V w1' → Calls Tryz.prog 8 #[.agg #[.bool o.lpo, .slice P o.prec.length o.prec.length, .slice Q o.wts.length o.wts.length, .int .i64 o.var], .agg #[.int .i64 y.fn, .slice A2 y.args.length c2], .agg #[.int .i64 x.fn, .slice A x.args.length c]] w1' fun e w' => e = .returned (.int .i64 ta) ∧ Below w1'.heap.size w1' w') := Lib.hid fun w1' h => by rw [← hta, ← ha, ← ord_turn HMay.out gx gy]; exact HCm.out y x A2 A c2 c w1' h (HKy'.out.on h) (HKx'.out.on h) (by omega)
              have Etn : Hid (∀ w1', Calls Tryz.prog 9 #[.int .i64 a] w1' fun e w' => e = .returned (.int .i64 ta) ∧ Below w1'.heap.size w1' w') := Lib.hid fun w1' => by rw [← hta]; exact topTurn_any a w1'
              obtain ⟨se, hse⟩ : ∃ se, decide (cmpT x y = 0) = se := ⟨_, rfl⟩
              have ea : ((a : Int) == 2) = se := by
                rw [← hse, ← ha, Bool.eq_iff_iff, beq_iff_eq, decide_eq_true_eq]
                exact ordV_two HMay.out gx gy
              have Esm : Hid (∀ w1', Below V.heap.size V w1' → Calls Tryz.prog 10 #[.agg #[.int .i64 x.fn, .slice A x.args.length c], .agg #[.int .i64 y.fn, .slice A2 y.args.length c2]] w1' fun e w' => e = .returned (.bool se) ∧ Below w1'.heap.size w1' w') := Lib.hid fun w1' h => by rw [← hse]; exact ref2Same_any' x y A A2 c c2 w1' HKx'.out.i64 HKy'.out.i64 (HKx'.out.on h).args.toA (HKy'.out.on h).args.toA
              have Evx := Lib.hid fun (w1' : World) (h : Below V.heap.size V w1') => vars_len x A c w1' HKx'.out.i64 (by omega) (HKx'.out.on h).args.toA
              have Evy := Lib.hid fun (w1' : World) (h : Below V.heap.size V w1') => vars_len y A2 c2 w1' HKy'.out.i64 (by omega) (HKy'.out.on h).args.toA
              have Hsm : Hid (∀ u ∈ l, u.t.size ≤ 4398046511104) := Lib.hid fun u hu => by have := (hsg u hu).2; omega
              have Eax : Hid (∀ w1', Below V.heap.size V w1' → Calls Tryz.prog 11 #[.slice C l.length cc, .agg #[.int .i64 x.fn, .slice A x.args.length c]] w1' fun e w' => ∃ A' c', e = .returned (.agg #[.int .i64 (appT (bdT l) x).fn, .slice A' (appT (bdT l) x).args.length c']) ∧ TmK w' (appT (bdT l) x) A' c' ∧ Below w1'.heap.size w1' w') := Lib.hid fun w1' h => by
                refine (refApplyK_at l Hsm.out x (by omega) C cc A c w1' ((HP'.out.keep fun g e => h.block g e).wide fun _ e => Nat.lt_of_lt_of_le e h.size) HKx'.out.i64 (HKx'.out.on h).args.toA).mono ?_
                rintro e w' ⟨A', c', he, hi, hA, hb⟩
                exact ⟨A', c', he, ⟨hi, hA.wide fun g e => e.2⟩, hb⟩
              have Eay : Hid (∀ w1', Below V.heap.size V w1' → Calls Tryz.prog 11 #[.slice C l.length cc, .agg #[.int .i64 y.fn, .slice A2 y.args.length c2]] w1' fun e w' => ∃ A' c', e = .returned (.agg #[.int .i64 (appT (bdT l) y).fn, .slice A' (appT (bdT l) y).args.length c']) ∧ TmK w' (appT (bdT l) y) A' c' ∧ Below w1'.heap.size w1' w') := Lib.hid fun w1' h => by
                refine (refApplyK_at l Hsm.out y (by omega) C cc A2 c2 w1' ((HP'.out.keep fun g e => h.block g e).wide fun _ e => Nat.lt_of_lt_of_le e h.size) HKy'.out.i64 (HKy'.out.on h).args.toA).mono ?_
                rintro e w' ⟨A', c', he, hi, hA, hb⟩
                exact ⟨A', c', he, ⟨hi, hA.wide fun g e => e.2⟩, hb⟩
              have Ead : Hid (a = 3 → ∀ (w1' : World) (B B2 : Option Addr) (d d2 : Nat), Below V.heap.size V w1' → TmK w1' (appT (bdT l) x) B d → TmK w1' (appT (bdT l) y) B2 d2 → Calls Tryz.prog 8 #[.agg #[.bool o.lpo, .slice P o.prec.length o.prec.length, .slice Q o.wts.length o.wts.length, .int .i64 o.var], .agg #[.int .i64 (appT (bdT l) x).fn, .slice B (appT (bdT l) x).args.length d], .agg #[.int .i64 (appT (bdT l) y).fn, .slice B2 (appT (bdT l) y).args.length d2]] w1' fun e w' => e = .returned (.int .i64 3) ∧ Below w1'.heap.size w1' w') := Lib.hid fun e1 w1' B B2 d d2 h h1 h2 => by rw [← HAp.out e1]; exact HCm.out _ _ B B2 d d2 w1' h h1 h2 (by omega)
              have HG := Lib.hid (And.intro gx gy)
              clear hall hsg gx gy gz ax ay sx sy' ha hbc hcd hta hse
              have hBy := fun zz : Later wr.heap.size wr => hBr.trans (zz.h.mono hBr.size)
              have m0 := fun zz : Later wr.heap.size wr => (HQ.out zz.w (hBy zz)).2.o0
              have m1 := fun zz : Later wr.heap.size wr => (HQ.out zz.w (hBy zz)).2.o1
              have m2 := fun zz : Later wr.heap.size wr => (HQ.out zz.w (hBy zz)).2.o2
              have m3 := fun zz : Later wr.heap.size wr => (HQ.out zz.w (hBy zz)).2.o3
              have m4 := fun zz : Later wr.heap.size wr => (HQ.out zz.w (hBy zz)).1.x0
              have m5 := fun zz : Later wr.heap.size wr => (HQ.out zz.w (hBy zz)).1.x1
              have m6 := fun zz : Later wr.heap.size wr => (HQ.out zz.w (hBy zz)).1.y0
              have m7 := fun zz : Later wr.heap.size wr => (HQ.out zz.w (hBy zz)).1.y1
              have m8 := fun zz : Later wr.heap.size wr => (HQ.out zz.w (hBy zz)).1.z0
              have m9 := fun zz : Later wr.heap.size wr => (HQ.out zz.w (hBy zz)).1.z1
              have L1 := Lib.hid fun zz : Later wr.heap.size wr => Exy.out zz.w (hBy zz)
              have L2 := Lib.hid fun zz : Later wr.heap.size wr => Eyz.out zz.w (hBy zz)
              have L3 := Lib.hid fun zz : Later wr.heap.size wr => Exz.out zz.w (hBy zz)
              clear hBy
              go_upto_region 12 with fail
              refine wp_region_later wr.heap.size wr (by kernel_rfl) (by kernel_rfl) (bl_drewN (Below.refl _ _) 1) ?_
              repeat (go_big_quiet_step (first
                | (go_at_call 8; with_reducible refine calls_later _ (Nat.le_refl _) (L1.out _))
                | (go_at_call 8; with_reducible refine calls_later _ (Nat.le_refl _) (L2.out _))
                | (go_at_call 8; with_reducible refine calls_later _ (Nat.le_refl _) (L3.out _))
                | fail))
              refine wpQuiet_nil ?_
              rintro _ ⟨zz, rfl⟩
              have hbA := hBr.trans (zz.h.mono hBr.size)
              obtain ⟨wA, hwA⟩ : ∃ wA, zz.w = wA := ⟨_, rfl⟩
              rw [hwA] at hbA ⊢
              clear hwA m0 m1 m2 m3 m4 m5 m6 m7 m8 m9 L1 L2 L3
              obtain ⟨⟨x0, x1, x2, x3, x4, x5, x6, x7, x8, x9, x10⟩, o0, o1, o2, o3⟩ := HQ.out wA hbA
              go_upto_region 15 with (first
                | (go_at_call 8; (with_reducible refine (Exx.out wA hbA).mono ?_); go_must (rintro e wB ⟨rfl, hb'⟩; have hbB := bl_step hbA hb'; obtain ⟨⟨y0, y1, y2, y3, y4, y5, y6, y7, y8, y9, y10⟩, u0, u1, u2, u3⟩ := HQ.out wB hbB))
                | (go_at_call 8; (with_reducible refine (Eyx.out wB hbB).mono ?_); go_must (rintro e wC ⟨rfl, hb'⟩; have hbC := bl_step hbB hb'))
                | (go_at_call 9; (with_reducible refine (Etn.out wC).mono ?_); go_must (rintro e wD ⟨rfl, hb'⟩; have hbD := bl_step hbC hb'; obtain ⟨⟨z0, z1, z2, z3, z4, z5, z6, z7, z8, z9, z10⟩, v0, v1, v2, v3⟩ := HQ.out wD hbD))
                | (go_at_call 10; (with_reducible refine (Esm.out wD hbD).mono ?_); go_must (rintro e wE ⟨rfl, hb'⟩; have hbE := bl_step hbD hb'))
                | fail)
              clear x0 x1 x2 x3 x4 x5 x6 x7 x8 x9 x10 o0 o1 o2 o3 y0 y1 y2 y3 y4 y5 y6 y7 y8 y9 y10 u0 u1 u2 u3 z0 z1 z2 z3 z4 z5 z6 z7 z8 z9 z10 v0 v1 v2 v3 ea hbA hbB hbC hbD
              go_cut [136] (fun s136 wx => s136 = .bool false ∧ Below wE.heap.size wE wx)
              case first =>
                by_cases e3 : a = 3
                · have EAD := Lib.hid (Ead.out e3)
                  subst e3
                  by_cases eb : bc = 3
                  · subst eb
                    obtain rfl : cd = 3 := HTr.out rfl rfl
                    have hwE : ∀ w', Below wE.drew.heap.size wE.drew w' → Below V.heap.size V w' := fun w' h => hbE.trans (((Below.refl wE.heap.size wE).drew.trans (h.mono (Nat.le_refl _))).mono hbE.size)
                    have c1 := fun w' (h : Below wE.drew.heap.size wE.drew w') => (And.intro (HQ.out w' (hwE w' h)).2.o0 (And.intro (HQ.out w' (hwE w' h)).2.o1 (And.intro (HQ.out w' (hwE w' h)).2.o2 (HQ.out w' (hwE w' h)).2.o3)))
                    have c2x := fun w' (h : Below wE.drew.heap.size wE.drew w') => (And.intro (HQ.out w' (hwE w' h)).1.x0 (HQ.out w' (hwE w' h)).1.x1)
                    have c3x := fun w' (h : Below wE.drew.heap.size wE.drew w') => (And.intro (HQ.out w' (hwE w' h)).1.y0 (HQ.out w' (hwE w' h)).1.y1)
                    have c4 := fun w' (h : Below wE.drew.heap.size wE.drew w') => Eax.out w' (hwE w' h)
                    have c5 := fun w' (h : Below wE.drew.heap.size wE.drew w') => Eay.out w' (hwE w' h)
                    have c6 := fun w' B B2 d d2 (h : Below wE.drew.heap.size wE.drew w') => EAD.out w' B B2 d d2 (hwE w' h)
                    refine wp_region_factsS 193 [[(18, none)], [(116, some 0)], [(117, some 1)], [(19, none)], [(119, some 3)], [(120, some 4)], [(20, none)], [(122, some 6)], [(121, some 5), (123, some 7)], [(124, some 8)], [(15, none)], [(6, none)], [(10, none)], [(127, some 11), (128, some 12)], [(6, none)], [(11, none)], [(130, some 14), (131, some 15)], [(126, some 10), (129, some 13), (132, some 16)], [(133, some 17)], [(125, some 9), (134, some 18)], [(118, some 2), (135, some 19)]]
                      [Fct.eq (.int .i64 3), Fct.eq (.bool true), Fct.eq (.bool true), Fct.eq (.int .i64 3), Fct.eq (.bool true), Fct.eq (.bool true), Fct.eq (.int .i64 3), Fct.eq (.bool false), Fct.eq (.bool false), Fct.eq (.bool false), Fct.eq (.agg #[.bool o.lpo, .slice P o.prec.length o.prec.length, .slice Q o.wts.length o.wts.length, .int .i64 o.var]), Fct.eq (.slice C l.length cc), Fct.eq (.agg #[.int .i64 x.fn, .slice A x.args.length c]), apK (appT (bdT l) x), Fct.eq (.slice C l.length cc), Fct.eq (.agg #[.int .i64 y.fn, .slice A2 y.args.length c2]), apK (appT (bdT l) y), Fct.eq (.int .i64 3), Fct.eq (.bool false), Fct.eq (.bool false), Fct.eq (.bool false)] (by kernel_rfl) (by decide +kernel) (by kernel_rfl) ?_ ?_
                    · exact ⟨st_moveB gd_none rfl, st_eqr gd_none rfl (by decide), st_move gd_none rfl, st_moveB (gd_true rfl) rfl, st_eqr (gd_true rfl) rfl (by decide), st_move (gd_true rfl) rfl, st_moveB (gd_true rfl) rfl, st_neqr (gd_true rfl) rfl (by decide), st_pickT (gd_true rfl) rfl rfl, st_move (gd_true rfl) rfl, st_ldO c1 (gd_false rfl) rfl, st_moveB (gd_false rfl) rfl, st_ldT c2x (gd_false rfl) rfl, st_appK c4 (gd_false rfl) rfl rfl, st_moveB (gd_false rfl) rfl, st_ldT c3x (gd_false rfl) rfl, st_appK c5 (gd_false rfl) rfl rfl, st_cmpA c6 (gd_false rfl) rfl rfl rfl, st_neqr (gd_false rfl) rfl (by decide), st_pickO (gd_true rfl) rfl rfl, st_pickT gd_none rfl rfl, trivial⟩
                    intro w4 hb4
                    have hE4 : Below wE.heap.size wE w4 := (Below.refl _ _).drew.trans (hb4.mono (Nat.le_refl _))
                    generalize hA0 : ({ tmps := _, defers := _ } : Act) = aa
                    refine FinS.some rfl (fun u0 _ => ?_)
                    refine FinS.some rfl (fun u1 _ => ?_)
                    refine FinS.some rfl (fun u2 _ => ?_)
                    refine FinS.some rfl (fun u3 _ => ?_)
                    refine FinS.some rfl (fun u4 _ => ?_)
                    refine FinS.some rfl (fun u5 _ => ?_)
                    refine FinS.some rfl (fun u6 _ => ?_)
                    refine FinS.some rfl (fun u7 _ => ?_)
                    refine FinS.some rfl (fun u8 _ => ?_)
                    refine FinS.some rfl (fun u9 _ => ?_)
                    refine FinS.some rfl (fun u10 _ => ?_)
                    refine FinS.some rfl (fun u11 _ => ?_)
                    refine FinS.some rfl (fun u12 _ => ?_)
                    refine FinS.some rfl (fun u13 _ => ?_)
                    refine FinS.some rfl (fun u14 _ => ?_)
                    refine FinS.some rfl (fun u15 _ => ?_)
                    refine FinS.some rfl (fun u16 _ => ?_)
                    refine FinS.some rfl (fun u17 _ => ?_)
                    refine FinS.some rfl (fun u18 _ => ?_)
                    refine FinS.some rfl (fun u19 _ => ?_)
                    refine FinS.some rfl (fun u20 (e20 : u20 = _) => ?_)
                    refine FinS.nil ?_
                    subst e20
                    subst hA0
                    clear c1 c2x c3x c4 c5 c6 hwE hb4
                    simp only [Act.put, List.setIfInBounds_toArray, List.set_cons_succ, List.set_cons_zero]
                    go_wp2
                    go_meet
                    exact ⟨rfl, hE4⟩
                  · have Eb3 : Hid (((bc : Int) == 3) = false) := Lib.hid (by simpa using eb)
                    clear eb
                    have hwE : ∀ w', Below wE.drew.heap.size wE.drew w' → Below V.heap.size V w' := fun w' h => hbE.trans (((Below.refl wE.heap.size wE).drew.trans (h.mono (Nat.le_refl _))).mono hbE.size)
                    have c1 := fun w' (h : Below wE.drew.heap.size wE.drew w') => (And.intro (HQ.out w' (hwE w' h)).2.o0 (And.intro (HQ.out w' (hwE w' h)).2.o1 (And.intro (HQ.out w' (hwE w' h)).2.o2 (HQ.out w' (hwE w' h)).2.o3)))
                    have c2x := fun w' (h : Below wE.drew.heap.size wE.drew w') => (And.intro (HQ.out w' (hwE w' h)).1.x0 (HQ.out w' (hwE w' h)).1.x1)
                    have c3x := fun w' (h : Below wE.drew.heap.size wE.drew w') => (And.intro (HQ.out w' (hwE w' h)).1.y0 (HQ.out w' (hwE w' h)).1.y1)
                    have c4 := fun w' (h : Below wE.drew.heap.size wE.drew w') => Eax.out w' (hwE w' h)
                    have c5 := fun w' (h : Below wE.drew.heap.size wE.drew w') => Eay.out w' (hwE w' h)
                    have c6 := fun w' B B2 d d2 (h : Below wE.drew.heap.size wE.drew w') => EAD.out w' B B2 d d2 (hwE w' h)
                    refine wp_region_factsS 193 [[(18, none)], [(116, some 0)], [(117, some 1)], [(19, none)], [(119, some 3)], [(120, some 4)], [(20, none)], [(122, some 6)], [(121, some 5), (123, some 7)], [(124, some 8)], [(15, none)], [(6, none)], [(10, none)], [(127, some 11), (128, some 12)], [(6, none)], [(11, none)], [(130, some 14), (131, some 15)], [(126, some 10), (129, some 13), (132, some 16)], [(133, some 17)], [(125, some 9), (134, some 18)], [(118, some 2), (135, some 19)]]
                      [Fct.eq (.int .i64 3), Fct.eq (.bool true), Fct.eq (.bool true), Fct.eq (.int .i64 bc), Fct.eq (.bool false), Fct.eq (.bool false), Fct.any, Fct.any, Fct.eq (.bool false), Fct.eq (.bool false), Fct.eq (.agg #[.bool o.lpo, .slice P o.prec.length o.prec.length, .slice Q o.wts.length o.wts.length, .int .i64 o.var]), Fct.eq (.slice C l.length cc), Fct.eq (.agg #[.int .i64 x.fn, .slice A x.args.length c]), apK (appT (bdT l) x), Fct.eq (.slice C l.length cc), Fct.eq (.agg #[.int .i64 y.fn, .slice A2 y.args.length c2]), apK (appT (bdT l) y), Fct.eq (.int .i64 3), Fct.eq (.bool false), Fct.eq (.bool false), Fct.eq (.bool false)] (by kernel_rfl) (by decide +kernel) (by kernel_rfl) ?_ ?_
                    · exact ⟨st_moveB gd_none rfl, st_eqr gd_none rfl (by decide), st_move gd_none rfl, st_moveB (gd_true rfl) rfl, st_eqr (gd_true rfl) rfl Eb3.out, st_move (gd_true rfl) rfl, st_skip rfl rfl, st_skip rfl rfl, st_pickF (gd_true rfl) rfl, st_move (gd_true rfl) rfl, st_ldO c1 (gd_false rfl) rfl, st_moveB (gd_false rfl) rfl, st_ldT c2x (gd_false rfl) rfl, st_appK c4 (gd_false rfl) rfl rfl, st_moveB (gd_false rfl) rfl, st_ldT c3x (gd_false rfl) rfl, st_appK c5 (gd_false rfl) rfl rfl, st_cmpA c6 (gd_false rfl) rfl rfl rfl, st_neqr (gd_false rfl) rfl (by decide), st_pickO (gd_true rfl) rfl rfl, st_pickT gd_none rfl rfl, trivial⟩
                    intro w4 hb4
                    have hE4 : Below wE.heap.size wE w4 := (Below.refl _ _).drew.trans (hb4.mono (Nat.le_refl _))
                    generalize hA0 : ({ tmps := _, defers := _ } : Act) = aa
                    refine FinS.some rfl (fun u0 _ => ?_)
                    refine FinS.some rfl (fun u1 _ => ?_)
                    refine FinS.some rfl (fun u2 _ => ?_)
                    refine FinS.some rfl (fun u3 _ => ?_)
                    refine FinS.some rfl (fun u4 _ => ?_)
                    refine FinS.some rfl (fun u5 _ => ?_)
                    refine FinS.some rfl (fun u6 _ => ?_)
                    refine FinS.some rfl (fun u7 _ => ?_)
                    refine FinS.some rfl (fun u8 _ => ?_)
                    refine FinS.some rfl (fun u9 _ => ?_)
                    refine FinS.some rfl (fun u10 _ => ?_)
                    refine FinS.some rfl (fun u11 _ => ?_)
                    refine FinS.some rfl (fun u12 _ => ?_)
                    refine FinS.some rfl (fun u13 _ => ?_)
                    refine FinS.some rfl (fun u14 _ => ?_)
                    refine FinS.some rfl (fun u15 _ => ?_)
                    refine FinS.some rfl (fun u16 _ => ?_)
                    refine FinS.some rfl (fun u17 _ => ?_)
                    refine FinS.some rfl (fun u18 _ => ?_)
                    refine FinS.some rfl (fun u19 _ => ?_)
                    refine FinS.some rfl (fun u20 (e20 : u20 = _) => ?_)
                    refine FinS.nil ?_
                    subst e20
                    subst hA0
                    clear c1 c2x c3x c4 c5 c6 hwE hb4
                    simp only [Act.put, List.setIfInBounds_toArray, List.set_cons_succ, List.set_cons_zero]
                    go_wp2
                    go_meet
                    exact ⟨rfl, hE4⟩
                · have e33 : ((a : Int) == 3) = false := by simpa using e3
                  clear e3
                  refine wp_region_later wE.heap.size wE (by kernel_rfl) (by kernel_rfl) (bl_drewN (Below.refl _ _) 1) ?_
                  repeat (go_big_quiet_step (fail))
                  refine wpQuiet_nil ?_
                  intro wz hwz
                  have hz : Below wE.heap.size wE wz := by obtain ⟨x', rfl⟩ := hwz; exact x'.h
                  clear hwz
                  go_wp2
                  go_meet
                  exact ⟨rfl, hz⟩
              case rest =>
                obtain ⟨rfl, hbc⟩ := hcut
                have hbF := bl_step hbE hbc
                clear hbc hbE
                go_upto_region 17 with fail
                go_cut [150] (fun s150 wx => s150 = .bool false ∧ Below wc.heap.size wc wx)
                case first =>
                  obtain ⟨⟨x0, x1, x2, x3, x4, x5, x6, x7, x8, x9, x10⟩, o0, o1, o2, o3⟩ := HQ.out wc hbF
                  obtain ⟨nx, hnx⟩ : ∃ nx, nvT x = nx := ⟨_, rfl⟩
                  obtain ⟨ny, hny⟩ : ∃ ny, nvT y = ny := ⟨_, rfl⟩
                  rw [hnx] at Evx
                  rw [hny] at Evy
                  rw [hnx, hny] at HTo
                  clear hnx hny
                  by_cases h0 : nx = 0
                  · have g0 : ((nx : Int) == 0) = true := by simpa using h0
                    by_cases h1 : ny = 0
                    · have g1 : ((ny : Int) == 0) = true := by simpa using h1
                      have g2 := HTo.out h0 h1
                      clear h0 h1
                      go_wp2_with (first
                        | (go_at_call 12; (with_reducible refine (Evx.out wc hbF).mono ?_); go_must (rintro e wG ⟨B1, d1, rfl, hb'⟩; have hbG := bl_step hbF hb'; have hcG := hb'; obtain ⟨⟨y0, y1, y2, y3, y4, y5, y6, y7, y8, y9, y10⟩, u0, u1, u2, u3⟩ := HQ.out wG hbG))
                        | (go_at_call 12; (with_reducible refine (Evy.out wG hbG).mono ?_); go_must (rintro e wH ⟨B2, d2, rfl, hb'⟩; have hcH := bl_step hcG hb'))
                        | fail)
                      go_meet
                      exact ⟨rfl, hcH⟩
                    · have g1 : ((ny : Int) == 0) = false := by simpa using h1
                      clear h0 h1
                      go_wp2_with (first
                        | (go_at_call 12; (with_reducible refine (Evx.out wc hbF).mono ?_); go_must (rintro e wG ⟨B1, d1, rfl, hb'⟩; have hbG := bl_step hbF hb'; have hcG := hb'; obtain ⟨⟨y0, y1, y2, y3, y4, y5, y6, y7, y8, y9, y10⟩, u0, u1, u2, u3⟩ := HQ.out wG hbG))
                        | (go_at_call 12; (with_reducible refine (Evy.out wG hbG).mono ?_); go_must (rintro e wH ⟨B2, d2, rfl, hb'⟩; have hcH := bl_step hcG hb'))
                        | fail)
                      go_meet
                      exact ⟨rfl, hcH⟩
                  · have g0 : ((nx : Int) == 0) = false := by simpa using h0
                    clear h0
                    go_wp2_with (first
                      | (go_at_call 12; (with_reducible refine (Evx.out wc hbF).mono ?_); go_must (rintro e wG ⟨B1, d1, rfl, hb'⟩; have hcG := hb'))
                      | fail)
                    go_meet
                    exact ⟨rfl, hcG⟩
                case rest =>
                  obtain ⟨rfl, hbc⟩ := hcut
                  have hbG := bl_step hbF hbc
                  clear hbc hbF
                  rename_i wd _
                  have hxl := HKx'.out.args.len
                  obtain ⟨⟨x0, x1, x2, x3, x4, x5, x6, x7, x8, x9, x10⟩, o0, o1, o2, o3⟩ := HQ.out _ hbG
                  go_wp2
                  clear x0 x1 x2 x3 x4 x5 x6 x7 x8 x9 x10 o0 o1 o2 o3
                  go_loopw [154] (fun i wr => ∃ k : Nat, k ≤ x.args.length ∧ i = .int .i64 (k : Int) ∧ Below V.heap.size V wr) (fun i _ => x.args.length - (intOf i).toNat)
                  case atStart => exact ⟨0, Nat.zero_le _, rfl, hbG⟩
                  case round =>
                    obtain ⟨k, hk, rfl, hBr⟩ := hrel
                    by_cases hlt : k < x.args.length
                    case neg =>
                      have hkl : k = x.args.length := by omega
                      go_wp2_with (first
                        | (go_at_call 4; (with_reducible refine (HO.out wr hBr).mono ?_); go_must (rintro e w9 ⟨rfl, hb9⟩))
                        | fail)
                      go_ret
                      exact ⟨ret_bool rfl, HFi.out _ _ hBr hb9⟩
                    case pos =>
                      obtain ⟨v, hv⟩ : ∃ v, x.args[k]? = some v := ⟨_, List.getElem?_eq_getElem hlt⟩
                      obtain ⟨bb, off, A1, c1, hAe, hbb, h64, k0, k1, kA⟩ := HKx'.out.args.get hv
                      subst hAe
                      have hvz : v.size ≤ 30 := by have := size_mem (List.mem_of_getElem? hv); cases x with | node f xs => simp only [Tm.size, Tm.args] at *; omega
                      have hwr1 : IntKind.i64.wrap ((k : Int) + 1) = (k : Int) + 1 := by rw [IntKind.wrap_i64]; omega
                      have HKv : Hid (∀ w1', Below V.heap.size V w1' → TmK w1' v A1 c1) := Lib.hid fun w1' h => (TmK.mk h64 kA).on h
                      obtain ⟨gx, gy⟩ := HG.out
                      obtain ⟨IN, hIN⟩ : ∃ IN, putO x [(k : Int)] y = IN := ⟨_, rfl⟩
                      have hINe : IN = .node x.fn (x.args.set k y) := by
                        rw [← hIN]
                        unfold putO
                        have h1 : (subT x [(k : Int)]).isSome = true := by
                          simp [subT, hlt]
                        rw [if_pos h1]
                        simp [putT, hv]
                      have hxe : x = .node x.fn x.args := (Tm.eta x).symm
                      have gxn : GdT sy (.node x.fn x.args) := by rw [← hxe]; exact gx
                      have hsz : (Tm.node x.fn x.args).size = x.size := by rw [← hxe]
                      have gIN : GdT sy IN := by rw [hINe]; exact gd_set hv gxn gy (by omega)
                      have hINz : IN.size ≤ 100 := by
                        have := sizes_set hv y
                        rw [hINe, Tm.size]
                        rw [Tm.size] at hsz
                        omega
                      obtain ⟨d, hd⟩ : ∃ d, ordV o v y = d := ⟨_, rfl⟩
                      have gv : GdT sy v := Gd.arg gxn (List.mem_of_getElem? hv)
                      have HIn : Hid (d = 3 → ordV o x IN = 3) := Lib.hid fun e => by
                        rw [hINe]
                        have h1 := ord_set (f := x.fn) HMay.out hv gxn (by rw [← hINe]; exact gIN) gy (hd.trans e)
                        rwa [← hxe] at h1
                      have hax : ordV o x v = 3 := by
                        have h1 := ord_arg HMay.out gxn (List.mem_of_getElem? hv)
                        rwa [← hxe] at h1
                      have Exv : Hid (∀ w1', Below V.heap.size V w1' → Calls Tryz.prog 8 #[.agg #[.bool o.lpo, .slice P o.prec.length o.prec.length, .slice Q o.wts.length o.wts.length, .int .i64 o.var], .agg #[.int .i64 x.fn, .slice (some ⟨bb, off, none⟩) x.args.length c], .agg #[.int .i64 v.fn, .slice A1 v.args.length c1]] w1' fun e w' => e = .returned (.int .i64 3) ∧ Below w1'.heap.size w1' w') := Lib.hid fun w1' h => by rw [← hax]; exact HCm.out x v _ A1 c c1 w1' h (HKx'.out.on h) (HKv.out w1' h) (by omega)
                      have Evy : Hid (∀ w1', Below V.heap.size V w1' → Calls Tryz.prog 8 #[.agg #[.bool o.lpo, .slice P o.prec.length o.prec.length, .slice Q o.wts.length o.wts.length, .int .i64 o.var], .agg #[.int .i64 v.fn, .slice A1 v.args.length c1], .agg #[.int .i64 y.fn, .slice A2 y.args.length c2]] w1' fun e w' => e = .returned (.int .i64 d) ∧ Below w1'.heap.size w1' w') := Lib.hid fun w1' h => by rw [← hd]; exact HCm.out v y A1 A2 c1 c2 w1' h (HKv.out w1' h) (HKy'.out.on h) (by omega)
                      have Exn : Hid (d = 3 → ∀ (w1' : World) (B : Option Addr) (d1 : Nat), Below V.heap.size V w1' → TmK w1' IN B d1 → Calls Tryz.prog 8 #[.agg #[.bool o.lpo, .slice P o.prec.length o.prec.length, .slice Q o.wts.length o.wts.length, .int .i64 o.var], .agg #[.int .i64 x.fn, .slice (some ⟨bb, off, none⟩) x.args.length c], .agg #[.int .i64 IN.fn, .slice B IN.args.length d1]] w1' fun e w' => e = .returned (.int .i64 3) ∧ Below w1'.heap.size w1' w') := Lib.hid fun e w1' B d1 h hK => by rw [← HIn.out e]; exact HCm.out x IN _ B c d1 w1' h (HKx'.out.on h) hK (by omega)
                      have Ept : Hid (∀ (w1' : World) (gp : Nat), Below V.heap.size V w1' → w1'.heap[gp]? = some (.cells #[.int .i64 (k : Int)] 3) → Calls Tryz.prog 13 #[.agg #[.int .i64 x.fn, .slice (some ⟨bb, off, none⟩) x.args.length c], .slice (some ⟨gp, 0, none⟩) 1 1, .agg #[.int .i64 y.fn, .slice A2 y.args.length c2]] w1' fun e w' => ∃ B d1, e = .returned (.tuple #[.agg #[.int .i64 IN.fn, .slice B IN.args.length d1], .bool true]) ∧ TmK w' IN B d1 ∧ Below w1'.heap.size w1' w') := Lib.hid fun w1' gp h hgp => by
                        have hI : Ints w1' w1'.heap.size (some ⟨gp, 0, none⟩) [(k : Int)] := (ints_of (n := [(k : Int)]) hgp (by simp) (fun q hq => by simp at hq; subst hq; exact ⟨by omega, by omega⟩)).more (Array.getElem?_eq_some_iff.1 hgp).1
                        refine (refPutK_any [(k : Int)] x y _ c (some ⟨gp, 0, none⟩) 1 A2 c2 w1' (by omega) (by omega) HKx'.out.i64 HKy'.out.i64 (HKx'.out.on h).args.toA hI (by simp) (by decide) (HKy'.out.on h).args.toA).mono ?_
                        rintro e w' ⟨B, d1, he, hi, hA, hb⟩
                        rw [hIN] at hi hA he
                        have h1 : (subT x [(k : Int)]).isSome = true := by simp [subT, hlt]
                        rw [h1] at he
                        exact ⟨B, d1, he, ⟨hi, hA.wide fun g e => e.2⟩, hb⟩
                      have hBy := fun zz : Later wr.heap.size wr => hBr.trans (zz.h.mono hBr.size)
                      have m0 := fun zz : Later wr.heap.size wr => (HQ.out zz.w (hBy zz)).2.o0
                      have m1 := fun zz : Later wr.heap.size wr => (HQ.out zz.w (hBy zz)).2.o1
                      have m2 := fun zz : Later wr.heap.size wr => (HQ.out zz.w (hBy zz)).2.o2
                      have m3 := fun zz : Later wr.heap.size wr => (HQ.out zz.w (hBy zz)).2.o3
                      have m4 := fun zz : Later wr.heap.size wr => (HQ.out zz.w (hBy zz)).1.x0
                      have m5 := fun zz : Later wr.heap.size wr => (HQ.out zz.w (hBy zz)).1.x1
                      have m6 := fun zz : Later wr.heap.size wr => cell_on (hBy zz) hbb k0
                      have m7 := fun zz : Later wr.heap.size wr => cell_on (hBy zz) hbb k1
                      have L1 := Lib.hid fun zz : Later wr.heap.size wr => Exv.out zz.w (hBy zz)
                      have HC7 : Hid (∀ w1', Below V.heap.size V w1' → w1'.cell? ⟨bb, off + k * 2, none⟩ = some (.int .i64 v.fn) ∧ w1'.cell? ⟨bb, off + k * 2 + 1, none⟩ = some (.slice A1 v.args.length c1)) := Lib.hid fun w1' h => ⟨cell_on h hbb k0, cell_on h hbb k1⟩
                      clear hv hbb h64 k0 k1 kA hvz gx gy hIN hINe hxe gxn hsz gIN hINz hd gv hax hBy
                      go_upto_region 22 with fail
                      refine wp_region_later wr.heap.size wr (by kernel_rfl) (by kernel_rfl) (bl_drewN (Below.refl _ _) 1) ?_
                      repeat (go_big_quiet_step (first
                        | (go_at_call 8; with_reducible refine calls_later _ (Nat.le_refl _) (L1.out _))
                        | fail))
                      refine wpQuiet_nil ?_
                      rintro _ ⟨zz, rfl⟩
                      have hbA := hBr.trans (zz.h.mono hBr.size)
                      obtain ⟨wA, hwA⟩ : ∃ wA, zz.w = wA := ⟨_, rfl⟩
                      rw [hwA] at hbA ⊢
                      clear hwA m0 m1 m2 m3 m4 m5 m6 m7 L1
                      obtain ⟨⟨x0, x1, x2, x3, x4, x5, x6, x7, x8, x9, x10⟩, o0, o1, o2, o3⟩ := HQ.out wA hbA
                      have hbp : Below wA.heap.size wA (wA.alloc (.cells #[.int .i64 (k : Int)] 3)) := (Below.refl _ _).alloc (Nat.le_refl _) _
                      have hBp := bl_step hbA hbp
                      have EPT := Lib.hid (Ept.out _ wA.heap.size hBp (heap_alloc_new _ _))
                      obtain ⟨⟨_, _, _, _, _, _, _, a7, a8, _, _⟩, _, _, _, _⟩ := HQ.out _ hBp
                      have HBp := Lib.hid hBp
                      clear hbp hBp
                      go_upto_region 25 with (first
                        | (go_at_call 13; (with_reducible refine EPT.out.mono ?_); go_must (rintro e wB ⟨B, d1, rfl, kI, hbB⟩; have HBB := Lib.hid (bl_step HBp.out hbB); have KI := Lib.hid kI; clear kI hbB))
                        | fail)
                      clear x0 x1 x2 x3 x4 x5 x6 x7 x8 x9 x10 o0 o1 o2 o3 a7 a8
                      obtain ⟨wD, hwD⟩ : ∃ wD, wB.alloc (.cells #[.int .i64 IN.fn, .slice B IN.args.length d1] 32) = wD := ⟨_, rfl⟩
                      have hbD : Below wB.heap.size wB wD := by rw [← hwD]; exact (Below.refl _ _).alloc (Nat.le_refl _) _
                      have qD : wD.heap[wB.heap.size]? = some (.cells #[.int .i64 IN.fn, .slice B IN.args.length d1] 32) := by rw [← hwD]; exact heap_alloc_new _ _
                      have hBD := bl_step HBB.out hbD
                      have KID := Lib.hid (KI.out.on hbD)
                      have HI9 : Hid (∀ w1', Below wD.heap.size wD w1' → w1'.cell? ⟨wB.heap.size, 0, none⟩ = some (.int .i64 IN.fn) ∧ w1'.cell? ⟨wB.heap.size, 1, none⟩ = some (.slice B IN.args.length d1)) := Lib.hid fun w1' h => by
                        obtain ⟨i0, i1, _, _⟩ := cells_two ((h.block _ (Array.getElem?_eq_some_iff.1 qD).1).trans qD)
                        exact ⟨i0, i1⟩
                      have HwD := Lib.hid hwD
                      clear hwD hbD qD
                      rw [HwD.out]
                      have hBy := fun zz : Later wD.heap.size wD => hBD.trans (zz.h.mono hBD.size)
                      have m0 := fun zz : Later wD.heap.size wD => (HQ.out zz.w (hBy zz)).2.o0
                      have m1 := fun zz : Later wD.heap.size wD => (HQ.out zz.w (hBy zz)).2.o1
                      have m2 := fun zz : Later wD.heap.size wD => (HQ.out zz.w (hBy zz)).2.o2
                      have m3 := fun zz : Later wD.heap.size wD => (HQ.out zz.w (hBy zz)).2.o3
                      have m4 := fun zz : Later wD.heap.size wD => (HQ.out zz.w (hBy zz)).1.y0
                      have m5 := fun zz : Later wD.heap.size wD => (HQ.out zz.w (hBy zz)).1.y1
                      have m6 := fun zz : Later wD.heap.size wD => (HC7.out zz.w (hBy zz)).1
                      have m7 := fun zz : Later wD.heap.size wD => (HC7.out zz.w (hBy zz)).2
                      have m8 := fun zz : Later wD.heap.size wD => (HQ.out zz.w (hBy zz)).1.x0
                      have m9 := fun zz : Later wD.heap.size wD => (HQ.out zz.w (hBy zz)).1.x1
                      have L1 := Lib.hid fun zz : Later wD.heap.size wD => Evy.out zz.w (hBy zz)
                      clear hBy
                      go_upto_region 25 with fail
                      refine wp_region_later wD.heap.size wD (by kernel_rfl) (by kernel_rfl) (bl_drewN (Below.refl _ _) 1) ?_
                      repeat (go_big_quiet_step (first
                        | (go_at_call 8; with_reducible refine calls_later _ (Nat.le_refl _) (L1.out _))
                        | fail))
                      refine wpQuiet_nil ?_
                      rintro _ ⟨zz, rfl⟩
                      have hDE := zz.h
                      have hbE := hBD.trans (zz.h.mono hBD.size)
                      obtain ⟨wE, hwE⟩ : ∃ wE, zz.w = wE := ⟨_, rfl⟩
                      rw [hwE] at hbE hDE ⊢
                      clear hwE m0 m1 m2 m3 m4 m5 m6 m7 m8 m9 L1
                      obtain ⟨⟨x0, x1, x2, x3, x4, x5, x6, x7, x8, x9, x10⟩, o0, o1, o2, o3⟩ := HQ.out wE hbE
                      obtain ⟨i0, i1⟩ := HI9.out wE hDE
                      by_cases e3 : d = 3
                      · subst e3
                        have EXN := Lib.hid (Exn.out rfl wE B d1 hbE (KID.out.on hDE))
                        go_wp2_with (first
                          | (go_at_call 8; (with_reducible refine EXN.out.mono ?_); go_must (rintro e wF ⟨rfl, hb'⟩; have hbF := bl_step hbE hb'))
                          | fail)
                        go_roundw
                        case rel => exact ⟨k + 1, by omega, by go_num, hbF⟩
                        case measure => simp [intOf]; omega
                      · have e33 : ((d : Int) == 3) = false := by simpa using e3
                        clear e3
                        go_wp2
                        go_roundw
                        case rel => exact ⟨k + 1, by omega, by go_num, hbE⟩
                        case measure => simp [intOf]; omega
end Go.Proofs.YthgglobfkkcdgaaGreatDoor
namespace Go.Proofs.YthgglobfkkcdgaaGreatDoor
open Go.ChangeShapes Go.WideShapes Go.ChangeAt Go.RowKit
set_option maxRecDepth 20000
theorem bulk_pos {H : Type} (d : DataW H) : 1 ≤ Rows.uptoBulk d := by
  cases d with
  | lit l => cases l <;> simp [Rows.uptoBulk]
  | _ => simp [Rows.uptoBulk]
theorem bulk_length {H : Type} : ∀ ds : List (DataW H), ds.length ≤ Rows.uptoBulkAll ds
  | [] => by simp
  | d :: ds => by
    have h1 := bulk_pos d
    have h2 := bulk_length ds
    simp only [Rows.uptoBulkAll, List.length_cons]; omega
theorem sig_bulk {H : Type} {d : DataW H} {len : Nat} (hl : len = 0 ∨ ∃ elems spare, d = .agg [.slice elems spare] ∧ elems.length = len) : len ≤ Rows.uptoBulk d := by
  rcases hl with rfl | ⟨elems, spare, rfl, rfl⟩
  · omega
  · have := bulk_length elems
    simp only [Rows.uptoBulk, Rows.uptoBulkAll]; omega
end Go.Proofs.YthgglobfkkcdgaaGreatDoor
namespace Go.Proofs.YthgglobfkkcdgaaGreatDoor
open Go.ChangeShapes Go.WideShapes Go.ChangeAt Go.RowKit
theorem trodAll_seven {H : Type} {enc : TypeId × Value → H} {P : Program} {w : World} {base : Nat} {spare : Nat → Bool} {held : Bool} {t0 t1 t2 t3 t4 t5 t6 : TypeId} {args : Array Value} {ds : List (DataW H)} {ps : List MemPlace} (h : DataW.TrodAll enc P w base spare held [t0, t1, t2, t3, t4, t5, t6] args.toList ds ps) :
    ∃ v0 v1 v2 v3 v4 v5 v6 d0 d1 d2 d3 d4 d5 d6 p0 p1 p2 p3 p4 p5 p6, args = #[v0, v1, v2, v3, v4, v5, v6] ∧ ds = [d0, d1, d2, d3, d4, d5, d6] ∧ ps = p0 ++ (p1 ++ (p2 ++ (p3 ++ (p4 ++ (p5 ++ (p6)))))) ∧ DataW.Trod enc P w base spare held t0 v0 d0 p0 ∧ DataW.Trod enc P w base spare held t1 v1 d1 p1 ∧ DataW.Trod enc P w base spare held t2 v2 d2 p2 ∧ DataW.Trod enc P w base spare held t3 v3 d3 p3 ∧ DataW.Trod enc P w base spare held t4 v4 d4 p4 ∧ DataW.Trod enc P w base spare held t5 v5 d5 p5 ∧ DataW.Trod enc P w base spare held t6 v6 d6 p6 := by
  obtain ⟨v0, w0, d0, e0, p0, q0, hargs, rfl, rfl, k0, r0⟩ := trodAll_cons h
  obtain ⟨v1, w1, d1, e1, p1, q1, rfl, rfl, rfl, k1, r1⟩ := trodAll_cons r0
  obtain ⟨v2, w2, d2, e2, p2, q2, rfl, rfl, rfl, k2, r2⟩ := trodAll_cons r1
  obtain ⟨v3, w3, d3, e3, p3, q3, rfl, rfl, rfl, k3, r3⟩ := trodAll_cons r2
  obtain ⟨v4, w4, d4, e4, p4, q4, rfl, rfl, rfl, k4, r4⟩ := trodAll_cons r3
  obtain ⟨v5, w5, d5, e5, p5, q5, rfl, rfl, rfl, k5, r5⟩ := trodAll_cons r4
  obtain ⟨v6, w6, d6, e6, p6, q6, rfl, rfl, rfl, k6, r6⟩ := trodAll_cons r5
  obtain ⟨rfl, rfl, rfl⟩ := trodAll_nil r6
  exact ⟨v0, v1, v2, v3, v4, v5, v6, d0, d1, d2, d3, d4, d5, d6, p0, p1, p2, p3, p4, p5, p6, by cases args; simp_all, rfl, by simp, k0, k1, k2, k3, k4, k5, k6⟩
end Go.Proofs.YthgglobfkkcdgaaGreatDoor
