import Derived.Test.YtnmpeodngipfcaaP22Z12
import Derived.Test.YtnmpeodngipfcaaP24Z2
import Derived.Test.YtnmpeodngipfcaaP24Z3
import Derived.Test.YtnmpeodngipfcaaP22Z1
import Derived.Test.YtnmpeodngipfcaaP22Z7
import Derived.Test.YtnmpeodngipfcaaP22Z11
import Derived.Test.YtnmpeodngipfcaaP22Z5
/- boxes of three terms; an index -/

namespace Go.Proofs.Ytnmpeodngipfcaa

open Go.RowKit Go.Shelf Go.Maps
set_option maxRecDepth 100000
set_option maxRecDepth 100000

theorem box5_heap {w W : World} {o : Odr} {s t u : Tm} {As P Q A A2 A3 : Option Addr} {n cs pc qc c c2 c3 : Nat} (hW : (((((w.alloc (.cells #[.slice As n cs] 36)).alloc (.cells #[.bool o.lpo, .slice P o.prec.length pc, .slice Q o.wts.length qc, .int .i64 o.var] 24)).alloc (.cells #[.int .i64 s.fn, .slice A s.args.length c] 27)).alloc (.cells #[.int .i64 t.fn, .slice A2 t.args.length c2] 27)).alloc (.cells #[.int .i64 u.fn, .slice A3 u.args.length c3] 27)) = W) : ∀ w1, Below W.heap.size W w1 → w1.heap[w.heap.size + 1]? = some (.cells #[.bool o.lpo, .slice P o.prec.length pc, .slice Q o.wts.length qc, .int .i64 o.var] 24) ∧ w1.heap[w.heap.size + 1 + 1]? = some (.cells #[.int .i64 s.fn, .slice A s.args.length c] 27) ∧ w1.heap[w.heap.size + 1 + 1 + 1]? = some (.cells #[.int .i64 t.fn, .slice A2 t.args.length c2] 27) := by
  obtain ⟨q0, q1, q2, q3, q4⟩ := heap5 w (.cells #[.slice As n cs] 36) (.cells #[.bool o.lpo, .slice P o.prec.length pc, .slice Q o.wts.length qc, .int .i64 o.var] 24) (.cells #[.int .i64 s.fn, .slice A s.args.length c] 27) (.cells #[.int .i64 t.fn, .slice A2 t.args.length c2] 27) (.cells #[.int .i64 u.fn, .slice A3 u.args.length c3] 27)
  rw [hW] at q0 q1 q2 q3 q4
  have hz : w.heap.size + 5 = W.heap.size := by rw [← hW]; simp
  exact fun w1 hb => ⟨(hb.block _ (by omega)).trans q1, (hb.block _ (by omega)).trans q2, (hb.block _ (by omega)).trans q3⟩

theorem idx_of (which : Int) (n : Nat) (hn : 0 < n) (hn2 : n ≤ 1048576) : ∃ j : Nat, (wrap64 (which.tmod (n : Int) + (n : Int))).tmod (n : Int) = (j : Int) ∧ j < n := by
  have h1 : which.tmod (n : Int) < (n : Int) := Int.tmod_lt_of_pos _ (by omega)
  have h2 : -(n : Int) < which.tmod (n : Int) := by
    have := Int.tmod_lt_of_pos (-which) (show (0 : Int) < (n : Int) by omega)
    rw [Int.neg_tmod] at this
    omega
  generalize which.tmod (n : Int) = m at h1 h2
  have h3 : wrap64 (m + (n : Int)) = m + (n : Int) := by
    unfold wrap64; omega
  rw [h3, Int.tmod_eq_emod_of_nonneg (by omega)]
  have h4 := Int.emod_nonneg (m + (n : Int)) (show (n : Int) ≠ 0 by omega)
  have h5 := Int.emod_lt_of_pos (m + (n : Int)) (show (0 : Int) < (n : Int) by omega)
  exact ⟨((m + (n : Int)) % (n : Int)).toNat, by omega, by omega⟩

end Go.Proofs.Ytnmpeodngipfcaa

/- The document's own Put, again: its rows have room for what they hold. (gen_ek.py) -/

namespace Go.Proofs.Ytnmpeodngipfcaa

open Go.RowKit Go.Shelf
set_option maxRecDepth 100000

/-- Another term is laid at a place of the row. -/
theorem RowTK.put {w : World} {base g cap n i : Nat} {l : List Ti} {x : Ti} {N M : Nat → Prop} (h : RowTK w base (.slice (some ⟨g, 0, none⟩) n cap) l N) (hn : l.length = n) (hi : i < l.length) (hx : I64 x.t.fn) (hg : ∀ k, N k → k ≠ g ∧ M k) (hxa : ArgsK w (fun k => k ≠ g ∧ M k) x.A x.c x.t.args) :
    RowTK ((w.setCell ⟨g, i * 2, none⟩ (.int .i64 x.t.fn)).setCell ⟨g, i * 2 + 1, none⟩ (.slice x.A x.t.args.length x.c)) base (.slice (some ⟨g, 0, none⟩) n cap) (l.set i x) M := by
  subst hn
  have h1 := (h.row.stored (i * 2) (.int .i64 x.t.fn)).1
  have h2 := (h1.stored (i * 2 + 1) (.slice x.A x.t.args.length x.c)).1
  rw [ti_set l i x hi] at h2
  have hk : ∀ k, k ≠ g → ((w.setCell ⟨g, i * 2, none⟩ (.int .i64 x.t.fn)).setCell ⟨g, i * 2 + 1, none⟩ (.slice x.A x.t.args.length x.c)).heap[k]? = w.heap[k]? := fun k e => (heap_setCell_other _ _ _ _ e).trans (heap_setCell_other _ _ _ _ e)
  refine ⟨by rw [List.length_set]; exact h2, fun y hy => ?_, fun y hy => ?_⟩
  · rcases List.mem_or_eq_of_mem_set hy with hy | rfl
    · exact h.i64 y hy
    · exact hx
  · rcases List.mem_or_eq_of_mem_set hy with hy | rfl
    · exact ((h.sub y hy).keep fun k e => hk k (hg k e).1).wide fun k e => (hg k e).2
    · exact (hxa.keep fun k e => hk k e.1).wide fun k e => e.2

def RPutPostK (t : Tm) (p : List Int) (s : Tm) (w : World) (e : Ending) (w' : World) : Prop := ∃ A' c', e = .returned (.tuple #[.agg #[.int .i64 (putO t p s).fn, .slice A' (putO t p s).args.length c'], .bool (subT t p).isSome]) ∧ I64 (putO t p s).fn ∧ ArgsK w' (fun g => w.heap.size ≤ g ∧ g < w'.heap.size) A' c' (putO t p s).args ∧ Below w.heap.size w w'

def RPutAtK (p : List Int) : Prop := ∀ (t s : Tm) (A : Option Addr) (c : Nat) (Ap : Option Addr) (cp : Nat) (As : Option Addr) (cs : Nat) (w : World), t.size ≤ 4398046511104 → s.size ≤ 4398046511104 → I64 t.fn → I64 s.fn → Args w w.heap.size A t.args → Ints w w.heap.size Ap p → p.length ≤ cp → cp ≤ 9223372036854775807 → Args w w.heap.size As s.args →
  Calls Try.prog 26 #[.agg #[.int .i64 t.fn, .slice A t.args.length c], .slice Ap p.length cp, .agg #[.int .i64 s.fn, .slice As s.args.length cs]] w (RPutPostK t p s w)

/-- What the inner call has left. -/
structure RPutMidK (w W : World) (o : Tm) (bb : Nat) (wx : World) : Prop where
  blw : Below W.heap.size W wx
  lo : W.heap.size ≤ bb
  i64 : I64 o.fn
  xb : ∃ Ax cx, wx.heap[bb]? = some (.cells #[.int .i64 o.fn, .slice Ax o.args.length cx] 27) ∧ ArgsK wx (fun g => W.heap.size ≤ g ∧ g < wx.heap.size) Ax cx o.args

set_option maxHeartbeats 2000000 in
theorem refPutK_any (p : List Int) : RPutAtK p := by
  induction p with
  | nil =>
    intro t s A c Ap cp As cs w hsz hss hi his hA hp hcp hcp2 hAs
    obtain ⟨q0, q1, q2⟩ := heap3 w (.cells #[.int .i64 t.fn, .slice A t.args.length c] 27) (.cells #[.int .i64 s.fn, .slice As s.args.length cs] 27) (.cells #[.int .i64 0, .slice none 0 0] 27)
    obtain ⟨W, hW⟩ : ∃ W, (((w.alloc (.cells #[.int .i64 t.fn, .slice A t.args.length c] 27)).alloc (.cells #[.int .i64 s.fn, .slice As s.args.length cs] 27)).alloc (.cells #[.int .i64 0, .slice none 0 0] 27)) = W := ⟨_, rfl⟩
    have hB : Below w.heap.size w W := by rw [← hW]; exact (((Below.refl _ _).alloc (Nat.le_refl _) _).alloc (by simp) _).alloc (by simp; omega) _
    rw [hW] at q0 q1 q2
    have hWs : w.heap.size + 1 + 1 < W.heap.size := (Array.getElem?_eq_some_iff.1 q2).1
    have HAs := Lib.hid (hAs.on hB)
    have HW := Lib.hid hW
    obtain ⟨a0, a1, _, _⟩ := cells_two q1
    clear hW hA hAs hp
    simp only [List.length_nil] at hcp ⊢
    go_enter Try.func26, Try.ntmps26
    go_upto_region 1 with fail
    rw [HW.out]
    go_wp2_with (first
      | (go_at_call 50; refine (refCopyK_at s As cs W hss his HAs.out).mono ?_; go_must (rintro e w2 ⟨A4, c4, rfl, hN4, hb4⟩; have y2 := (hb4.block _ hWs).trans q2; obtain ⟨d0, d1, k0, k1⟩ := cells_two y2))
      | fail)
    obtain ⟨z0, z1⟩ := set2_two (u := .int .i64 s.fn) (v := .slice A4 s.args.length c4) y2
    have p0 := (cells_two z0).1
    have p1 := (cells_two z1).2.1
    have hw2 : W.heap.size ≤ w2.heap.size := hb4.size
    refine bodyPost_ret (v := .tuple #[.agg #[.int .i64 s.fn, .slice A4 s.args.length c4], .bool true]) (by simp [results, Try.results26, go_sem, p0, p1]) rfl ⟨A4, c4, by rw [putO_nil]; rfl, by rw [putO_nil]; exact his, ?_, ?_⟩
    · rw [putO_nil]
      refine (hN4.keep fun g hg => ?_).wide fun g hg => ⟨by omega, by simpa using hg.2⟩
      exact (heap_setCell_other _ _ _ _ (by show g ≠ w.heap.size + 1 + 1; omega)).trans (heap_setCell_other _ _ _ _ (by show g ≠ w.heap.size + 1 + 1; omega))
    · exact ((hB.trans (hb4.mono (by omega))).setCell (by show _ ≤ w.heap.size + 1 + 1; omega) _).setCell (by show _ ≤ w.heap.size + 1 + 1; omega) _
  | cons i p ih =>
    intro t s A c Ap cp As cs w hsz hss hi his hA hp hcp hcp2 hAs
    obtain ⟨q0, q1, q2⟩ := heap3 w (.cells #[.int .i64 t.fn, .slice A t.args.length c] 27) (.cells #[.int .i64 s.fn, .slice As s.args.length cs] 27) (.cells #[.int .i64 0, .slice none 0 0] 27)
    obtain ⟨W, hW⟩ : ∃ W, (((w.alloc (.cells #[.int .i64 t.fn, .slice A t.args.length c] 27)).alloc (.cells #[.int .i64 s.fn, .slice As s.args.length cs] 27)).alloc (.cells #[.int .i64 0, .slice none 0 0] 27)) = W := ⟨_, rfl⟩
    have hB : Below w.heap.size w W := by rw [← hW]; exact (((Below.refl _ _).alloc (Nat.le_refl _) _).alloc (by simp) _).alloc (by simp; omega) _
    rw [hW] at q0 q1 q2
    have hWs : w.heap.size + 1 + 1 < W.heap.size := (Array.getElem?_eq_some_iff.1 q2).1
    have HAs := Lib.hid hAs
    have HA := Lib.hid hA
    have HW := Lib.hid hW
    have hal := hA.len
    have hpl := hp.len
    obtain ⟨pb, po, rfl, hpb, hpc⟩ := hp.ad (by simp)
    have hp64 := hp.i64
    have Hpc := Lib.hid hpc
    have pp0 := cell_on hB hpb (hpc 0 i rfl)
    rw [Nat.add_zero] at pp0
    obtain ⟨a0, a1, _, _⟩ := cells_two q0
    obtain ⟨s0, s1, _, _⟩ := cells_two q1
    clear hW hA hAs hp hpc
    simp only [List.length_cons] at hcp hpl ⊢
    have hne : ¬ ((p.length : Int) + 1 = 0) := by omega
    by_cases hin : 0 ≤ i ∧ i < t.args.length
    · obtain ⟨h0, h1⟩ := hin
      obtain ⟨j, rfl⟩ : ∃ j : Nat, i = (j : Int) := ⟨i.toNat, by omega⟩
      obtain ⟨u, hu⟩ : ∃ u, t.args[j]? = some u := ⟨_, List.getElem?_eq_getElem (by omega)⟩
      obtain ⟨ub, uo, Au, cu, rfl, ha⟩ := HA.out.get hu
      have e0 := cell_on hB ha.hb ha.c0
      have e1 := cell_on hB ha.hb ha.c1
      have hub := ha.hb
      have d1 : decide ((j : Int) < 0) = false := decide_eq_false (by omega)
      have d2 : decide ((t.args.length : Int) ≤ (j : Int)) = false := decide_eq_false (by omega)
      have hj : j < t.args.length := by omega
      have hu3 : u.size ≤ 4398046511104 ∧ I64 u.fn ∧ Args w w.heap.size Au u.args := ⟨by have := size_mem (List.mem_of_getElem? hu); cases t with | node f xs => simp only [Tm.size, Tm.args] at this hsz; omega, ha.hi, ha.sub⟩
      have hsub := Lib.hid (show subT t ((j : Int) :: p) = subT u p from sub_step h0 h1 (by simpa using hu))
      have Hu := Lib.hid hu
      clear hu ha
      go_enter Try.func26, Try.ntmps26
      go_upto_region 1 with fail
      rw [HW.out]
      go_wp2
      go_quiet (fail)
      go_upto_region 5 with fail
      obtain ⟨Wd, hWd⟩ : ∃ Wd, W.drewN nq = Wd := ⟨_, rfl⟩
      have hBd : Below W.heap.size W Wd := by rw [← hWd]; exact bl_drewN (Below.refl _ _) nq
      have hds : Wd.heap.size = W.heap.size := by rw [← hWd]; rfl
      rw [hWd]
      have HWd := Lib.hid hWd
      clear hWd
      have hS0 : ∀ w', Below W.heap.size W w' → w'.cell? ⟨w.heap.size, 1, none⟩ = some (.slice (some ⟨ub, uo, none⟩) t.args.length c) ∧ w'.cell? ⟨ub, uo + j * 2, none⟩ = some (.int .i64 u.fn) ∧ w'.cell? ⟨ub, uo + j * 2 + 1, none⟩ = some (.slice Au u.args.length cu) ∧ w'.cell? ⟨pb, po, none⟩ = some (.int .i64 (j : Int)) ∧ w'.cell? ⟨w.heap.size + 1, 0, none⟩ = some (.int .i64 s.fn) ∧ w'.cell? ⟨w.heap.size + 1, 1, none⟩ = some (.slice As s.args.length cs) := fun w' h =>
        ⟨cell_on h (by omega) a1, cell_on h (by omega) e0, cell_on h (by omega) e1, cell_on h (by omega) pp0, cell_on h (by omega) s0, cell_on h (by omega) s1⟩
      clear a0 a1 e0 e1 pp0 s0 s1
      have hle : (1 : Int) ≤ (p.length : Int) + 1 := by omega
      obtain ⟨Aq, hAq⟩ : ∃ Aq, (if cp = 1 then some (⟨pb, po, none⟩ : Addr) else some ⟨pb, po + 1, none⟩) = Aq := ⟨_, rfl⟩
      have hq : Ints w w.heap.size Aq p := by
        refine ⟨by omega, fun x hx => hp64 x (by simp [hx]), fun hn => ⟨pb, po + 1, ?_, hpb, fun i x hx => ?_⟩⟩
        · rw [← hAq, if_neg (by omega)]
        · have := Hpc.out (i + 1) x (by simpa using hx)
          rwa [show po + 1 + i = po + (i + 1) from by omega]
      have Hq := Lib.hid hq
      clear hq
      have hWl : w.heap.size ≤ W.heap.size := by omega
      have hD : Below W.heap.size W Wd.drew := hBd.drew
      have hDa : Below W.heap.size W (Wd.alloc (.cells #[.int .i64 0, .slice none 0 0] 27)).drew := (hBd.alloc (by omega) _).drew
      have hya : (Wd.alloc (.cells #[.int .i64 0, .slice none 0 0] 27)).drew.heap[W.heap.size]? = some (.cells #[.int .i64 0, .slice none 0 0] 27) := by rw [← hds]; exact heap_alloc_new Wd _
      obtain ⟨a1, e0, e1, pp0, s0, s1⟩ := hS0 Wd hBd
      go_cut [8, 9] (fun s8 s9 wx => ∃ bb : Nat, s8 = .pointer (some ⟨bb, 0, none⟩) ∧ s9 = .bool (subT u p).isSome ∧ RPutMidK w W (putO u p s) bb wx)
      case first =>
        go_region_held3 (fun w' => w'.cell? ⟨w.heap.size, 1, none⟩ = some (.slice (some ⟨ub, uo, none⟩) t.args.length c) ∧ w'.cell? ⟨ub, uo + j * 2, none⟩ = some (.int .i64 u.fn) ∧ w'.cell? ⟨ub, uo + j * 2 + 1, none⟩ = some (.slice Au u.args.length cu) ∧ w'.cell? ⟨pb, po, none⟩ = some (.int .i64 (j : Int)) ∧ w'.cell? ⟨w.heap.size + 1, 0, none⟩ = some (.int .i64 s.fn) ∧ w'.cell? ⟨w.heap.size + 1, 1, none⟩ = some (.slice As s.args.length cs))
          (first | exact ⟨a1, e0, e1, pp0, s0, s1⟩ | exact hS0 _ hB4 | exact hS0 _ (hB4.alloc hB4.size _) | exact hS0 _ hDa | exact hS0 _ ((hB4.setCell (Nat.le_refl _) _).setCell (Nat.le_refl _) _) | fail)
          (first
            | (go_at_call 26
               refine (ih u s Au cu Aq (cp - 1) As cs Wd.drew hu3.1 hss hu3.2.1 his (hu3.2.2.on (hB.trans (hD.mono hWl))) (Hq.out.on (hB.trans (hD.mono hWl))) (by omega) (by omega) (HAs.out.on (hB.trans (hD.mono hWl)))).mono ?_
               rintro e w4 ⟨Ax, cx, rfl, hix, hAx, hb4⟩
               have hB4 : Below W.heap.size W w4 := hD.trans (hb4.mono (by show W.heap.size ≤ Wd.heap.size; omega)))
            | (go_at_call 26
               refine (ih u s Au cu Aq (cp - 1) As cs (Wd.alloc _).drew hu3.1 hss hu3.2.1 his (hu3.2.2.on (hB.trans (hDa.mono hWl))) (Hq.out.on (hB.trans (hDa.mono hWl))) (by omega) (by omega) (HAs.out.on (hB.trans (hDa.mono hWl)))).mono ?_
               rintro e w4 ⟨Ax, cx, rfl, hix, hAx, hb4⟩
               have hB4 : Below W.heap.size W w4 := hDa.trans (hb4.mono (by simp; omega))
               have y4 : w4.heap[W.heap.size]? = some (.cells #[.int .i64 0, .slice none 0 0] 27) := (hb4.block _ (by simp; omega)).trans hya
               obtain ⟨m0, m1, fm0, fm1⟩ := cells_two y4)
            | fail)
        all_goals (go_wp2_with fail; go_meet)
        · have hBa : Below w4.heap.size w4 (w4.alloc (.cells #[.int .i64 (putO u p s).fn, .slice Ax (putO u p s).args.length cx] 27)) := (Below.refl _ _).alloc (Nat.le_refl _) _
          refine ⟨w4.heap.size, rfl, rfl, hB4.alloc hB4.size _, hB4.size, hix, Ax, cx, heap_alloc_new _ _, (hAx.keep fun g hg => hBa.block g hg.2).wide fun g hg => ⟨?_, ?_⟩⟩
          · have h1 : Wd.heap.size ≤ g := hg.1
            omega
          · have := hg.2
            simp
            omega
        · refine ⟨W.heap.size, rfl, rfl, (hB4.setCell (Nat.le_refl _) _).setCell (Nat.le_refl _) _, Nat.le_refl _, hix, Ax, cx, (set2_two y4).2, (hAx.keep fun g hg => ?_).wide fun g hg => ⟨?_, ?_⟩⟩
          · have h1 := hg.1
            simp at h1
            exact (heap_setCell_other _ _ _ _ (by show g ≠ W.heap.size; omega)).trans (heap_setCell_other _ _ _ _ (by show g ≠ W.heap.size; omega))
          · have h1 := hg.1
            simp at h1
            omega
          · simpa using hg.2
      case rest =>
        obtain ⟨bb, rfl, rfl, ⟨hBx, hlo, hio, Ax, cx, hxb, hAx⟩⟩ := hcut
        have hBxs := hBx.size
        have tx := (hBx.block _ (by omega)).trans q0
        have rx := (hBx.block _ hWs).trans q2
        obtain ⟨a0, a1, _, _⟩ := cells_two tx
        obtain ⟨b0, b1, g0, g1⟩ := cells_two rx
        have hBw := hB.trans (hBx.mono hWl)
        by_cases hso : (subT u p).isSome = true
        · have Hss := Lib.hid (show (subT t ((j : Int) :: p)).isSome = true by rw [hsub.out]; exact hso)
          have hpu : putO u p s = putT u p s := by unfold putO; rw [if_pos hso]
          have Hp := Lib.hid (show putO t ((j : Int) :: p) s = .node t.fn (t.args.set j (putO u p s)) by
            have e : putT t ((j : Int) :: p) s = .node t.fn (t.args.set j (putT u p s)) := by simp only [putT, Int.toNat_natCast, Hu.out]
            rw [hpu, ← e]
            unfold putO
            rw [if_pos Hss.out])
          have hAt := Lib.hid (HA.out.on hBw)
          have hbbl : bb < _ := (Array.getElem?_eq_some_iff.1 hxb).1
          obtain ⟨x0, x1, _, _⟩ := cells_two hxb
          have pp1 := (hS0 _ hBx).2.2.2.1
          clear hpu
          go_upto_region 9 with (first
            | (go_at_call 50
               refine (refCopyK_any t hsz _ c _ hi hAt.out).mono ?_
               rintro e w5 ⟨v5, l5, rfl, hl5, hR5, hb5⟩
               have hl5n : l5.length = t.args.length := by rw [← hl5, List.length_map]
               have hrow5 := hR5.row
               rw [hl5n] at hrow5
               obtain ⟨g5, c5, hv5⟩ := row_some hrow5 (by omega)
               subst hv5
               have hg5 := row_lt hrow5 g5 rfl
               have hfl : (l5.flatMap Ti.cells).length = t.args.length * 2 := by rw [ti_len, hl5n]
               have r0 := (hrow5.cellAt (j * 2) (by omega)).trans (List.getElem?_eq_getElem (by omega))
               have r1 := (hrow5.cellAt (j * 2 + 1) (by omega)).trans (List.getElem?_eq_getElem (by omega))
               have fr0 := hrow5.frozenAt (j * 2)
               have fr1 := hrow5.frozenAt (j * 2 + 1)
               have HR5 := Lib.hid hR5
               clear hR5)
            | fail)
          obtain ⟨W6, hW6⟩ : ∃ W6, w5.alloc (.cells #[.int .i64 t.fn, .slice (some ⟨g5, 0, none⟩) t.args.length c5] 27) = W6 := ⟨_, rfl⟩
          have hb6 : Below w5.heap.size w5 W6 := by rw [← hW6]; exact (Below.refl _ _).alloc (Nat.le_refl _) _
          have o6 : W6.heap[w5.heap.size]? = some (.cells #[.int .i64 t.fn, .slice (some ⟨g5, 0, none⟩) t.args.length c5] 27) := by rw [← hW6]; exact heap_alloc_new _ _
          rw [hW6]
          clear hW6
          have hs5 := hb5.size
          have hs6 := (Array.getElem?_eq_some_iff.1 o6).1
          have hb56 := bl_step hb5 hb6
          have pp6 := cell_on hb56 (by omega) pp1
          have xx0 := cell_on hb56 hbbl x0
          have xx1 := cell_on hb56 hbbl x1
          have rr0 := cell_on hb6 hg5.2 r0
          have rr1 := cell_on hb6 hg5.2 r1
          have ff0 := frozen_on hb6 hg5.2 fr0
          have ff1 := frozen_on hb6 hg5.2 fr1
          have r6 := (hb56.block _ (by omega)).trans rx
          obtain ⟨o0, o1, _, _⟩ := cells_two o6
          clear r0 r1 fr0 fr1 x0 x1 pp1 a0 a1 b0 b1 g0 g1
          have HR6 := HR5.out.keep (w' := W6) (fun g e => hb6.block g (row_lt HR5.out.row g e).2) (fun g e => hb6.block g e.2.1)
          have HR7 := HR6.put (x := ⟨putO u p s, Ax, cx⟩) (i := j) (M := fun g => W.heap.size ≤ g ∧ g < W6.heap.size) hl5n (by omega) hio (fun k e => ⟨fun e2 => e.2.2 (by rw [e2]; rfl), by have := e.1; omega, by have := e.2.1; omega⟩)
            ((hAx.keep fun g e => hb56.block g e.2).wide fun g e => ⟨by have := e.2; omega, e.1, by have := e.2; omega⟩)
          have HR7 := Lib.hid HR7
          clear HR6
          go_region
          obtain ⟨W7, hW7⟩ : ∃ W7, ((W6.setCell ⟨g5, j * 2, none⟩ (.int .i64 (putO u p s).fn)).setCell ⟨g5, j * 2 + 1, none⟩ (.slice Ax (putO u p s).args.length cx)).drew = W7 := ⟨_, rfl⟩
          have hk7 : ∀ g, g ≠ g5 → W7.heap[g]? = W6.heap[g]? := fun g e => by rw [← hW7]; exact (heap_setCell_other _ _ _ _ e).trans (heap_setCell_other _ _ _ _ e)
          have hsz7 : W7.heap.size = W6.heap.size := by rw [← hW7]; simp
          have HR8 : RowTK W7 wc.heap.size (.slice (some ⟨g5, 0, none⟩) t.args.length c5) (l5.set j ⟨putO u p s, Ax, cx⟩) (fun g => W.heap.size ≤ g ∧ g < W6.heap.size) := by rw [← hW7]; exact HR7.out.keep (fun _ _ => rfl) (fun _ _ => rfl)
          have hB7 : Below w.heap.size w W7 := by rw [← hW7]; exact (((hBw.trans (hb56.mono (by omega))).setCell (by show _ ≤ g5; omega) _).setCell (by show _ ≤ g5; omega) _).drew
          rw [hW7]
          clear hW7
          have o7 := (hk7 _ (by omega)).trans o6
          have r7 := (hk7 _ (by omega)).trans r6
          obtain ⟨y0, y1, _, _⟩ := cells_two o7
          obtain ⟨b0, b1, g0, g1⟩ := cells_two r7
          have HR8 := Lib.hid HR8
          go_wp2
          obtain ⟨z0, z1⟩ := set2_two (u := .int .i64 t.fn) (v := .slice (some ⟨g5, 0, none⟩) t.args.length c5) r7
          have p0 := (cells_two z0).1
          have p1 := (cells_two z1).2.1
          have hlx : (l5.set j ⟨putO u p s, Ax, cx⟩).length = t.args.length := by rw [List.length_set, hl5n]
          obtain ⟨A8, c8, e8, hN8⟩ := HR8.out.argsK (M := fun g => W.heap.size ≤ g ∧ g < W6.heap.size) (by omega) (fun g e => by have := row_lt HR8.out.row g e; omega) (fun g e => e)
          rw [List.map_set, hl5] at hN8
          injection e8 with e8 _ e9
          subst e8
          subst e9
          refine bodyPost_ret (v := .tuple #[.agg #[.int .i64 t.fn, .slice (some ⟨g5, 0, none⟩) t.args.length c5], .bool true]) (by simp [results, Try.results26, go_sem, p0, p1]) rfl ⟨some ⟨g5, 0, none⟩, c5, by rw [Hp.out, Hss.out]; simp [Tm.fn, Tm.args], by rw [Hp.out]; exact hi, ?_, ?_⟩
          · rw [Hp.out]
            refine (hN8.keep fun g hg => ?_).wide fun g hg => ⟨by omega, by have := hg.2; simp; omega⟩
            exact (heap_setCell_other _ _ _ _ (by show g ≠ w.heap.size + 1 + 1; omega)).trans (heap_setCell_other _ _ _ _ (by show g ≠ w.heap.size + 1 + 1; omega))
          · exact (hB7.setCell (by show _ ≤ w.heap.size + 1 + 1; omega) _).setCell (by show _ ≤ w.heap.size + 1 + 1; omega) _
        · have hso : (subT u p).isSome = false := by simpa using hso
          have Hn := Lib.hid (show subT t ((j : Int) :: p) = none by rw [hsub.out]; simpa using hso)
          have Hp := Lib.hid (show putO t ((j : Int) :: p) s = .node 0 [] by unfold putO; rw [Hn.out]; rfl)
          go_wp2
          obtain ⟨z0, z1⟩ := set2_two (u := .int .i64 0) (v := .slice none 0 0) rx
          have p0 := (cells_two z0).1
          have p1 := (cells_two z1).2.1
          refine bodyPost_ret (v := .tuple #[.agg #[.int .i64 0, .slice none 0 0], .bool false]) (by simp [results, Try.results26, go_sem, p0, p1]) rfl ⟨none, 0, by rw [Hp.out, Hn.out]; rfl, by rw [Hp.out]; exact ⟨by decide, by decide⟩, by rw [Hp.out]; exact .nil _ _, ?_⟩
          exact (hBw.setCell (by show _ ≤ w.heap.size + 1 + 1; omega) _).setCell (by show _ ≤ w.heap.size + 1 + 1; omega) _
    · have Hn := Lib.hid (show subT t (i :: p) = none from sub_none (by omega))
      have Hp := Lib.hid (show putO t (i :: p) s = .node 0 [] by unfold putO; rw [Hn.out]; rfl)
      obtain ⟨b0, b1, g0, g1⟩ := cells_two q2
      by_cases hi0 : i < 0
      · have d1 : decide (i < 0) = true := decide_eq_true hi0
        go_enter Try.func26, Try.ntmps26
        go_upto_region 1 with fail
        rw [HW.out]
        go_wp2
        go_quiet (fail)
        go_wp2
        have r2 : (W.drewN nq).heap[w.heap.size + 1 + 1]? = _ := q2
        obtain ⟨z0, z1⟩ := set2_two (u := .int .i64 0) (v := .slice none 0 0) r2
        have p0 := (cells_two z0).1
        have p1 := (cells_two z1).2.1
        refine bodyPost_ret (v := .tuple #[.agg #[.int .i64 0, .slice none 0 0], .bool false]) (by simp [results, Try.results26, go_sem, p0, p1]) rfl ⟨none, 0, by rw [Hp.out, Hn.out]; rfl, by rw [Hp.out]; exact ⟨by decide, by decide⟩, by rw [Hp.out]; exact .nil _ _, ?_⟩
        exact ((bl_drewN hB nq).setCell (by show _ ≤ w.heap.size + 1 + 1; omega) _).setCell (by show _ ≤ w.heap.size + 1 + 1; omega) _
      · have d1 : decide (i < 0) = false := decide_eq_false hi0
        have d2 : (t.args.length : Int) ≤ i := by omega
        have d3 : decide ((t.args.length : Int) ≤ i) = true := decide_eq_true d2
        go_enter Try.func26, Try.ntmps26
        go_upto_region 1 with fail
        rw [HW.out]
        go_wp2
        go_quiet (fail)
        go_wp2
        have r2 : (W.drewN nq).heap[w.heap.size + 1 + 1]? = _ := q2
        obtain ⟨z0, z1⟩ := set2_two (u := .int .i64 0) (v := .slice none 0 0) r2
        have p0 := (cells_two z0).1
        have p1 := (cells_two z1).2.1
        refine bodyPost_ret (v := .tuple #[.agg #[.int .i64 0, .slice none 0 0], .bool false]) (by simp [results, Try.results26, go_sem, p0, p1]) rfl ⟨none, 0, by rw [Hp.out, Hn.out]; rfl, by rw [Hp.out]; exact ⟨by decide, by decide⟩, by rw [Hp.out]; exact .nil _ _, ?_⟩
        exact ((bl_drewN hB nq).setCell (by show _ ≤ w.heap.size + 1 + 1; omega) _).setCell (by show _ ≤ w.heap.size + 1 + 1; omega) _

end Go.Proofs.Ytnmpeodngipfcaa

/- The document's own answer: Vars. -/

namespace Go.Proofs.Ytnmpeodngipfcaa

open Go.RowKit
set_option maxRecDepth 100000

theorem insI_len (l : List Int) (v : Int) : (insI l v).length ≤ l.length + 1 := by
  have key : ∀ (r : List Int) (d : Bool) (out z : List Int), insGo v r d out = some z → z.length ≤ out.length + r.length + (if d then 0 else 1) := by
    intro r
    induction r with
    | nil =>
      intro d out z h
      simp only [insGo, Option.some.injEq] at h
      subst h
      cases d <;> simp
    | cons x r ih =>
      intro d out z h
      simp only [insGo] at h
      split at h
      · cases h
      · split at h
        · rename_i h2
          have := ih _ _ _ h
          simp only [h2.2, List.length_append, List.length_cons, List.length_nil] at this ⊢
          simp at this ⊢
          omega
        · have := ih _ _ _ h
          simp only [List.length_append, List.length_cons, List.length_nil] at this ⊢
          omega
  unfold insI
  cases h : insGo v l false [] with
  | none => simp
  | some z => have := key _ _ _ _ h; simp at this ⊢; omega

theorem insGo_i64 {v : Int} (hv : I64 v) : ∀ (r : List Int) (d : Bool) (out z : List Int), (∀ x ∈ r, I64 x) → (∀ x ∈ out, I64 x) → insGo v r d out = some z → ∀ x ∈ z, I64 x
  | [], d, out, z, hr, ho, h => by
    simp only [insGo, Option.some.injEq] at h
    subst h
    cases d
    · simp only [Bool.false_eq_true, if_false, List.mem_append, List.mem_cons, List.not_mem_nil, or_false]
      rintro x (hx | rfl)
      · exact ho x hx
      · exact hv
    · simpa using ho
  | y :: r, d, out, z, hr, ho, h => by
    have hy := hr y (by simp)
    have hr' : ∀ x ∈ r, I64 x := fun x hx => hr x (by simp [hx])
    simp only [insGo] at h
    split at h
    · cases h
    · split at h
      · refine insGo_i64 hv r _ _ z hr' ?_ h
        simp only [List.mem_append, List.mem_cons, List.not_mem_nil, or_false]
        rintro x ((hx | rfl) | rfl)
        · exact ho x hx
        · exact hv
        · exact hy
      · refine insGo_i64 hv r _ _ z hr' ?_ h
        simp only [List.mem_append, List.mem_cons, List.not_mem_nil, or_false]
        rintro x (hx | rfl)
        · exact ho x hx
        · exact hy

theorem insI_i64 {l : List Int} {v : Int} (hl : ∀ x ∈ l, I64 x) (hv : I64 v) : ∀ x ∈ insI l v, I64 x := by
  unfold insI
  cases h : insGo v l false [] with
  | none => simpa using hl
  | some z => simpa using insGo_i64 hv l _ _ z hl (by simp) h

def InsPost (l : List Int) (w : World) (e : Ending) (w' : World) : Prop := ∃ v, e = .returned v ∧ IntsV w' v l ∧ Below w.heap.size w w'

set_option maxHeartbeats 2000000 in
theorem ref2Insert_any (l : List Int) (v : Int) (A : Option Addr) (c : Nat) (w : World) (hlen : l.length ≤ 4398046511104) (hv : I64 v) (hA : Ints w w.heap.size A l) :
    Calls Try.prog 72 #[.slice A l.length c, .int .i64 v] w (InsPost (insI l v) w) := by
  obtain ⟨i0, hi, hz0, hz1, hz2⟩ := info_parts infoInt
  have h64 := hA.i64
  go_enter Try.func72, Try.ntmps72
  go_wp2
  go_loopw [5, 6, 7] (fun o d i wr => ∃ (k : Nat) (dn : Bool) (out : List Int), k ≤ l.length ∧ i = .int .i64 (k : Int) ∧ d = .bool dn ∧ wr.ownsRow w.heap.size 3 1 o out.length (out.map (Value.int .i64)) ∧ Below w.heap.size w wr ∧ Hid (insGo v l false [] = insGo v (l.drop k) dn out ∧ out.length ≤ k + (if dn = true then 1 else 0) ∧ ∀ x ∈ out, I64 x)) (fun _ _ i _ => l.length - (intOf i).toNat)
  case atStart => exact ⟨0, false, [], Nat.zero_le _, rfl, rfl, by simpa using World.ownsRow_nil w _ _ _, Below.refl _ _, rfl, by simp, by simp⟩
  case round =>
    obtain ⟨k, dn, out, hk, rfl, rfl, hrow, hBr, H⟩ := hrel
    by_cases hkl : k < l.length
    · obtain ⟨x, hx⟩ : ∃ x, l[k]? = some x := ⟨_, List.getElem?_eq_getElem hkl⟩
      obtain ⟨pb, po, rfl, hpb, hpc⟩ := hA.ad (by omega)
      have pw := hpc _ _ hx
      have p0 := cell_on hBr hpb pw
      have hdrop : l.drop k = x :: l.drop (k + 1) := by
        rw [List.drop_eq_getElem_cons hkl]
        rw [List.getElem?_eq_getElem hkl] at hx
        injection hx with hx
        rw [hx]
      have hxi := h64 x (List.mem_of_getElem? hx)
      have hrl := row_lt hrow
      have hBrs := hBr.size
      have hol0 := H.out.2.1
      have hol : out.length ≤ k + 1 := by split at hol0 <;> omega
      clear hx hpc
      by_cases e : x = v
      · have hn : insI l v = l := by
          unfold insI
          rw [H.out.1, hdrop]
          simp only [insGo, if_pos e, Option.getD_none]
        have hn := Lib.hid hn
        go_wp2
        go_ret
        exact ⟨.slice (some ⟨pb, po, none⟩) l.length c, rfl, ⟨some ⟨pb, po, none⟩, c, by rw [hn.out], by rw [hn.out]; exact hA.on hBr⟩, hBr⟩
      · have Hd := Lib.hid hdrop
        clear hdrop
        by_cases hd : v < x ∧ dn = false
        · obtain ⟨hvx, rfl⟩ := hd
          have hgo : insGo v l false [] = insGo v (l.drop (k + 1)) true (out ++ [v] ++ [x]) := by
            rw [H.out.1, Hd.out]
            simp only [insGo, if_neg e]
            rw [if_pos ⟨hvx, by trivial⟩]
          have hgo := Lib.hid hgo
          go_wp2_with (first
            | (at_builtin
               refine wpList_append_own _ rfl _ _ 22 rfl w.heap.size 3 i0 (.int .i64 0) 1 8 Try.underlying22 hi hz0 hz1 hz2 rfl (by decide) _ out.length _ rfl (hrow.alloc _) ⟨wr.heap.size, 0, none⟩ 1 1 [.int .i64 v] rfl rfl (cell_one_new _ _ _) (by simp [Value.oneCell']) (by unfold maxLen; omega) (by omega) (by simp; omega) ?_
               go_must (
               intro v1 w1 hown1 hgr1 _
               have hB1 : Below w.heap.size w w1 := (hBr.alloc hBrs _).grown hgr1 (by simp; omega) fun g hg => (hrl g hg).1
               have p1 := cell_on hB1 hpb pw
               have hB1s := hB1.size
               clear hgr1))
            | (at_builtin
               go_must (
               refine wpList_append_own _ rfl _ _ 22 rfl w.heap.size 3 i0 (.int .i64 0) 1 8 Try.underlying22 hi hz0 hz1 hz2 rfl (by decide) _ (out.length + 1) _ rfl (hown1.alloc _) ⟨w1.heap.size, 0, none⟩ 1 1 [.int .i64 x] rfl rfl (cell_one_new _ _ _) (by simp [Value.oneCell']) (by unfold maxLen; omega) (by omega) (by simp; omega) ?_
               intro v2 w2 hown2 hgr2 _
               have hB2 : Below w.heap.size w w2 := (hB1.alloc hB1s _).grown hgr2 (by simp; omega) fun g hg => (row_lt hown1 g hg).1
               clear hgr2))
            | fail)
          refine ⟨⟨k + 1, true, out ++ [v] ++ [x], by omega, by go_num, rfl, ?_, hB2, hgo.out, by simp at hol0 ⊢; omega, ?_⟩, by simp [intOf]; omega⟩
          · simpa [List.map_append] using hown2
          · simp only [List.mem_append, List.mem_cons, List.not_mem_nil, or_false]
            rintro y ((hy | rfl) | rfl)
            · exact H.out.2.2 y hy
            · exact hv
            · exact hxi
        · have hgo : insGo v l false [] = insGo v (l.drop (k + 1)) dn (out ++ [x]) := by
            rw [H.out.1, Hd.out]
            simp only [insGo, if_neg e]
            rw [if_neg hd]
          have hgo := Lib.hid hgo
          have hfin : ∀ (w2 : World) (v2 : Value), w2.ownsRow w.heap.size 3 1 v2 (out.length + 1) (out.map (Value.int .i64) ++ [.int .i64 x]) → w2.ownsRow w.heap.size 3 1 v2 (out ++ [x]).length ((out ++ [x]).map (Value.int .i64)) := fun w2 v2 h => by simpa [List.map_append] using h
          have hxs : ∀ y ∈ out ++ [x], I64 y := by
            simp only [List.mem_append, List.mem_cons, List.not_mem_nil, or_false]
            rintro y (hy | rfl)
            · exact H.out.2.2 y hy
            · exact hxi
          by_cases hvx : v < x
          · have hdt : dn = true := by
              cases dn
              · exact absurd ⟨hvx, rfl⟩ hd
              · rfl
            subst hdt
            clear hd
            go_wp2_with (first
              | (at_builtin
                 go_must (
                 refine wpList_append_own _ rfl _ _ 22 rfl w.heap.size 3 i0 (.int .i64 0) 1 8 Try.underlying22 hi hz0 hz1 hz2 rfl (by decide) _ out.length _ rfl (hrow.alloc _) ⟨wr.heap.size, 0, none⟩ 1 1 [.int .i64 x] rfl rfl (cell_one_new _ _ _) (by simp [Value.oneCell']) (by unfold maxLen; omega) (by omega) (by simp; omega) ?_
                 intro v2 w2 hown2 hgr2 _
                 have hB2 : Below w.heap.size w w2 := (hBr.alloc hBrs _).grown hgr2 (by simp; omega) fun g hg => (hrl g hg).1
                 clear hgr2))
              | fail)
            exact ⟨⟨k + 1, true, out ++ [x], by omega, by go_num, rfl, hfin _ _ hown2, hB2, hgo.out, by simp at hol0 ⊢; omega, hxs⟩, by simp [intOf]; omega⟩
          · clear hd
            go_wp2_with (first
              | (at_builtin
                 go_must (
                 refine wpList_append_own _ rfl _ _ 22 rfl w.heap.size 3 i0 (.int .i64 0) 1 8 Try.underlying22 hi hz0 hz1 hz2 rfl (by decide) _ out.length _ rfl (hrow.alloc _) ⟨wr.heap.size, 0, none⟩ 1 1 [.int .i64 x] rfl rfl (cell_one_new _ _ _) (by simp [Value.oneCell']) (by unfold maxLen; omega) (by omega) (by simp; omega) ?_
                 intro v2 w2 hown2 hgr2 _
                 have hB2 : Below w.heap.size w w2 := (hBr.alloc hBrs _).grown hgr2 (by simp; omega) fun g hg => (hrl g hg).1
                 clear hgr2))
              | fail)
            exact ⟨⟨k + 1, dn, out ++ [x], by omega, by go_num, rfl, hfin _ _ hown2, hB2, hgo.out, by rw [List.length_append]; simp only [List.length_cons, List.length_nil]; omega, hxs⟩, by simp [intOf]; omega⟩
    · obtain rfl : k = l.length := by omega
      have hrl := row_lt hrow
      have hBrs := hBr.size
      have hol0 := H.out.2.1
      have hol : out.length ≤ l.length + 1 := by split at hol0 <;> omega
      cases dn with
      | true =>
        have hn : insI l v = out := by
          unfold insI
          rw [H.out.1, List.drop_length]
          simp [insGo]
        have HN := Lib.hid hn
        clear hn
        go_wp2
        go_ret
        exact ⟨u5, rfl, by rw [HN.out]; exact row_ints hrow (by omega) H.out.2.2, hBr⟩
      | false =>
        have hn : insI l v = out ++ [v] := by
          unfold insI
          rw [H.out.1, List.drop_length]
          simp [insGo]
        have HN := Lib.hid hn
        clear hn
        go_wp2_with (first
          | (at_builtin
             go_must (
             refine wpList_append_own _ rfl _ _ 22 rfl w.heap.size 3 i0 (.int .i64 0) 1 8 Try.underlying22 hi hz0 hz1 hz2 rfl (by decide) _ out.length _ rfl (hrow.alloc _) ⟨wr.heap.size, 0, none⟩ 1 1 [.int .i64 v] rfl rfl (cell_one_new _ _ _) (by simp [Value.oneCell']) (by unfold maxLen; omega) (by omega) (by simp; omega) ?_
             intro v2 w2 hown2 hgr2 _
             have hB2 : Below w.heap.size w w2 := (hBr.alloc hBrs _).grown hgr2 (by simp; omega) fun g hg => (hrl g hg).1
             clear hgr2))
          | fail)
        go_ret
        refine ⟨v2, rfl, ?_, hB2⟩
        rw [HN.out]
        refine row_ints (by simpa [List.map_append] using hown2) (by simp; omega) ?_
        simp only [List.mem_append, List.mem_cons, List.not_mem_nil, or_false]
        rintro y (hy | rfl)
        · exact H.out.2.2 y hy
        · exact hv

end Go.Proofs.Ytnmpeodngipfcaa

/- The document's own answer: Vars, by Join. -/

namespace Go.Proofs.Ytnmpeodngipfcaa

open Go.RowKit
set_option maxRecDepth 100000

theorem fold_len : ∀ (r l : List Int), (r.foldl insI l).length ≤ l.length + r.length
  | [], l => by simp
  | v :: r, l => by
    have h1 := fold_len r (insI l v)
    have h2 := insI_len l v
    simp only [List.foldl_cons, List.length_cons]
    omega

theorem vnL_le (xs : List Tm) (k : Nat) : (vnL (xs.take k)).length ≤ (vnL xs).length := by
  have := congrArg List.length (vnL_app (xs.take k) (xs.drop k))
  rw [List.take_append_drop, List.length_append] at this
  omega

def RJoin (t : Tm) : Prop := ∀ (l : List Int), l.length + (vn t).length ≤ 4398046511104 → ∀ (Al A : Option Addr) (cl c : Nat) (w : World), I64 t.fn → Ints w w.heap.size Al l → Args w w.heap.size A t.args →
  Calls Try.prog 51 #[.slice Al l.length cl, .agg #[.int .i64 t.fn, .slice A t.args.length c]] w (InsPost ((vn t).foldl insI l) w)

set_option maxHeartbeats 2000000 in
theorem ref2Join_any (t : Tm) : RJoin t := by
  refine Tm.ind (P := RJoin) (fun f xs ih => ?_) t
  intro l hl Al A cl c w hf hI hA
  simp only [Tm.fn, Tm.args] at hf hA ⊢
  have hlen := hA.len
  obtain ⟨W, hW⟩ : ∃ W, w.alloc (.cells #[.int .i64 f, .slice A xs.length c] 27) = W := ⟨_, rfl⟩
  obtain ⟨hB, hlt, hS⟩ := box_term hW
  have HW := Lib.hid hW
  have hI' := Lib.hid (hI.on hB)
  obtain ⟨x0, x1⟩ := hS W (Below.refl _ _)
  -- what stands in the row as the loop begins
  obtain ⟨l0, hl0, hv, hl0l⟩ : ∃ l0, l0 = (if f < 0 then insI l (-1 - f) else l) ∧ (vn (.node f xs)).foldl insI l = (vnL xs).foldl insI l0 ∧ l0.length + (vnL xs).length ≤ 4398046511104 := by
    refine ⟨_, rfl, ?_, ?_⟩
    · simp only [vn]
      by_cases h : f < 0
      · simp [h]
      · simp [h]
    · simp only [vn] at hl
      by_cases h : f < 0
      · have := insI_len l (-1 - f)
        simp [h] at hl ⊢; omega
      · simp [h] at hl ⊢; omega
  have Hv := Lib.hid hv
  clear hW hv hI
  by_cases hf0 : f < 0
  · rw [if_pos hf0] at hl0
    have h64 : I64 (-1 - f) := ⟨by have := hf.1; omega, by have := hf.1; omega⟩
    have hf1 := hf.1
    have Hl0 := Lib.hid hl0
    clear hl0
    go_enter Try.func51, Try.ntmps51
    go_upto_region 1 with fail
    rw [HW.out]
    go_wp2_with (first
      | (go_at_call 72
         go_must (
         refine (ref2Insert_any l (-1 - f) Al cl W (by omega) h64 hI'.out).mono ?_
         rintro e w1 ⟨v1, rfl, hv1, hb1⟩
         rw [← Hl0.out] at hv1))
      | fail)
    go_loopw [0, 5] (fun o i wr => ∃ (k : Nat) (r : List Int), k ≤ xs.length ∧ i = .int .i64 (k : Int) ∧ IntsV wr o r ∧ Below W.heap.size W wr ∧ Hid (r = (vnL (xs.take k)).foldl insI l0)) (fun _ i _ => xs.length - (intOf i).toNat)
    case atStart => exact ⟨0, l0, Nat.zero_le _, rfl, hv1, hb1, Lib.hid (by simp [vnL])⟩
    case round =>
      obtain ⟨k, r, hk, rfl, ⟨Ar, cr, rfl, hIr⟩, hBr, Hr⟩ := hrel
      obtain ⟨_, z1⟩ := hS _ hBr
      by_cases hkl : k < xs.length
      · obtain ⟨u, hu⟩ : ∃ u, xs[k]? = some u := ⟨_, List.getElem?_eq_getElem hkl⟩
        obtain ⟨bb, off, A1, c1, rfl, ha⟩ := (hA.on (hB.trans (hBr.mono hB.size))).get hu
        have e0 := ha.c0
        have e1 := ha.c1
        have hmem := List.mem_of_getElem? hu
        have hsub := Lib.hid ha.sub
        have hu64 := ha.hi
        have hvk := vnL_take hu
        have hIr' := Lib.hid hIr
        have hrl : r.length + (vn u).length ≤ 4398046511104 := by
          have h1 := fold_len (vnL (xs.take k)) l0
          have h2 := vnL_le xs (k + 1)
          rw [hvk, List.length_append] at h2
          rw [← Hr.out] at h1
          omega
        have hVk := Lib.hid hvk
        clear hu ha hvk hIr
        go_wp2_with (first
          | (go_at_call 51
             go_must (
             refine (ih u hmem r hrl Ar A1 cr c1 wr hu64 hIr'.out hsub.out).mono ?_
             rintro e w2 ⟨v2, rfl, hv2, hb2⟩))
          | fail)
        exact ⟨⟨k + 1, _, by omega, by go_num, hv2, hBr.trans (hb2.mono hBr.size), Lib.hid (by rw [hVk.out, List.foldl_append, ← Hr.out])⟩, by simp [intOf]; omega⟩
      · obtain rfl : k = xs.length := by omega
        have Hf := Lib.hid (show (vn (.node f xs)).foldl insI l = r by rw [Hv.out, Hr.out, List.take_length])
        clear Hv Hr
        go_wp2
        go_ret
        exact ⟨.slice Ar r.length cr, rfl, by rw [Hf.out]; exact ⟨Ar, cr, rfl, hIr⟩, hB.trans (hBr.mono hB.size)⟩
  · rw [if_neg hf0] at hl0
    subst hl0
    go_enter Try.func51, Try.ntmps51
    go_upto_region 1 with fail
    rw [HW.out]
    go_wp2
    go_loopw [0, 5] (fun o i wr => ∃ (k : Nat) (r : List Int), k ≤ xs.length ∧ i = .int .i64 (k : Int) ∧ IntsV wr o r ∧ Below W.heap.size W wr ∧ Hid (r = (vnL (xs.take k)).foldl insI l0)) (fun _ i _ => xs.length - (intOf i).toNat)
    case atStart => exact ⟨0, l0, Nat.zero_le _, rfl, ⟨Al, cl, rfl, hI'.out⟩, Below.refl _ _, Lib.hid (by simp [vnL])⟩
    case round =>
      obtain ⟨k, r, hk, rfl, ⟨Ar, cr, rfl, hIr⟩, hBr, Hr⟩ := hrel
      obtain ⟨_, z1⟩ := hS _ hBr
      by_cases hkl : k < xs.length
      · obtain ⟨u, hu⟩ : ∃ u, xs[k]? = some u := ⟨_, List.getElem?_eq_getElem hkl⟩
        obtain ⟨bb, off, A1, c1, rfl, ha⟩ := (hA.on (hB.trans (hBr.mono hB.size))).get hu
        have e0 := ha.c0
        have e1 := ha.c1
        have hmem := List.mem_of_getElem? hu
        have hsub := Lib.hid ha.sub
        have hu64 := ha.hi
        have hvk := vnL_take hu
        have hIr' := Lib.hid hIr
        have hrl : r.length + (vn u).length ≤ 4398046511104 := by
          have h1 := fold_len (vnL (xs.take k)) l0
          have h2 := vnL_le xs (k + 1)
          rw [hvk, List.length_append] at h2
          rw [← Hr.out] at h1
          omega
        have hVk := Lib.hid hvk
        clear hu ha hvk hIr
        go_wp2_with (first
          | (go_at_call 51
             go_must (
             refine (ih u hmem r hrl Ar A1 cr c1 wr hu64 hIr'.out hsub.out).mono ?_
             rintro e w2 ⟨v2, rfl, hv2, hb2⟩))
          | fail)
        exact ⟨⟨k + 1, _, by omega, by go_num, hv2, hBr.trans (hb2.mono hBr.size), Lib.hid (by rw [hVk.out, List.foldl_append, ← Hr.out])⟩, by simp [intOf]; omega⟩
      · obtain rfl : k = xs.length := by omega
        have Hf := Lib.hid (show (vn (.node f xs)).foldl insI l0 = r by rw [Hv.out, Hr.out, List.take_length])
        clear Hv Hr
        go_wp2
        go_ret
        exact ⟨.slice Ar r.length cr, rfl, by rw [Hf.out]; exact ⟨Ar, cr, rfl, hIr⟩, hB.trans (hBr.mono hB.size)⟩

theorem ref2Vars_any (t : Tm) (A : Option Addr) (c : Nat) (w : World) (hf : I64 t.fn) (hl : t.size ≤ 4398046511104) (hA : Args w w.heap.size A t.args) :
    Calls Try.prog 25 #[.agg #[.int .i64 t.fn, .slice A t.args.length c]] w (InsPost ((vn t).foldl insI []) w) := by
  have hB : Below w.heap.size w (w.alloc (.cells #[.int .i64 t.fn, .slice A t.args.length c] 27)) := (Below.refl _ _).alloc (Nat.le_refl _) _
  have hN := fun w1 => (⟨by simp, by simp, fun h => by simp at h⟩ : Ints w1 w1.heap.size none [])
  have hvl := vn_len t
  go_enter Try.func25, Try.ntmps25
  go_wp2_with (first
    | (go_at_call 51
       go_must (
       refine (ref2Join_any t [] (by simp; omega) none A 0 c _ hf (hN _) (hA.on hB)).mono ?_
       rintro e w1 ⟨v1, rfl, hv1, hb1⟩
       have hB1 := bl_step hB hb1))
    | fail)
  go_ret
  exact ⟨v1, rfl, hv1, hB1⟩

end Go.Proofs.Ytnmpeodngipfcaa

/- variables, at a place, plain -/

namespace Go.Proofs.Ytnmpeodngipfcaa

open Go.RowKit
set_option maxRecDepth 20000
set_option maxRecDepth 20000

theorem insGo_ge {v : Int} : ∀ (r : List Int) (d : Bool) (out z : List Int), insGo v r d out = some z → out.length + r.length + (if d then 0 else 1) ≤ z.length
  | [], d, out, z, h => by
    simp only [insGo, Option.some.injEq] at h
    subst h
    cases d <;> simp
  | x :: r, d, out, z, h => by
    simp only [insGo] at h
    by_cases hx : x = v
    · rw [if_pos hx] at h; cases h
    · rw [if_neg hx] at h
      by_cases h2 : v < x ∧ d = false
      · rw [if_pos h2] at h
        have := insGo_ge r true _ z h
        rw [h2.2]
        simp at this ⊢; omega
      · rw [if_neg h2] at h
        have := insGo_ge r d _ z h
        simp at this ⊢; omega

theorem insI_ne (l : List Int) (v : Int) : insI l v ≠ [] := by
  unfold insI
  cases h : insGo v l false [] with
  | none =>
    rw [Option.getD_none]
    intro e
    subst e
    simp [insGo] at h
  | some z =>
    rw [Option.getD_some]
    have := insGo_ge l false [] z h
    intro e
    subst e
    simp at this

theorem fold_ne : ∀ (r l : List Int), r.foldl insI l = [] → r = [] ∧ l = []
  | [], l, h => ⟨rfl, h⟩
  | v :: r, l, h => by
    rw [List.foldl_cons] at h
    exact absurd (fold_ne r _ h).2 (insI_ne l v)

theorem vn_grd : ∀ t : Tm, vn t = [] → grd t := by
  refine Tm.ind fun f xs ih h v hv => ?_
  have key : ∀ ys : List Tm, (∀ y ∈ ys, y ∈ xs) → vnL ys = [] → ofL v ys = 0 := by
    intro ys
    induction ys with
    | nil => intro _ _; rw [ofL]
    | cons y ys ih2 =>
      intro hm hy
      rw [vnL, List.append_eq_nil_iff] at hy
      rw [ofL, ih y (hm y (by simp)) hy.1 v hv, ih2 (fun z hz => hm z (by simp [hz])) hy.2]
  rw [vn, List.append_eq_nil_iff] at h
  have hf : ¬ f < 0 := fun hf => by rw [if_pos hf] at h; simp at h
  rw [ofT, if_neg (by omega), key xs (fun _ h => h) h.2]

theorem set_parts {xs : List Tm} {j : Nat} {x : Tm} (h : xs[j]? = some x) (X : Tm) : xs.set j X = xs.take j ++ X :: xs.drop (j + 1) := by
  rw [List.set_eq_take_append_cons_drop, if_pos (List.getElem?_eq_some_iff.1 h).1]

theorem sizes_two : ∀ xs ys : List Tm, sizes (xs ++ ys) = sizes xs + sizes ys
  | [], ys => by simp [sizes]
  | x :: xs, ys => by rw [List.cons_append, sizes, sizes, sizes_two xs ys]; omega

theorem sizes_set {xs : List Tm} {j : Nat} {x : Tm} (h : xs[j]? = some x) (X : Tm) : sizes (xs.set j X) + x.size = sizes xs + X.size := by
  have h1 : xs.set j x = xs := by
    have hl := (List.getElem?_eq_some_iff.1 h).1
    refine List.ext_getElem? fun i => ?_
    rw [List.getElem?_set]
    by_cases e : j = i
    · subst e; rw [if_pos rfl, if_pos hl, h]
    · rw [if_neg e]
  rw [set_parts h X]
  have h2 := congrArg sizes ((set_parts h x).symm.trans h1)
  rw [sizes_two, sizes] at h2 ⊢
  omega

theorem putT_sz (s : Tm) : ∀ (p : List Int) (u : Tm), (putT u p s).size ≤ u.size + s.size
  | [], u => by rw [putT]; omega
  | i :: p, u => by
    rw [putT]
    cases h : u.args[i.toNat]? with
    | none => simp only []; omega
    | some x =>
      simp only []
      have h1 := putT_sz s p x
      have h2 := sizes_set h (putT x p s)
      obtain ⟨f, xs⟩ := u
      simp only [Tm.args, Tm.fn] at h2 ⊢
      rw [Tm.size, Tm.size]
      omega

theorem putO_some {u : Tm} {p : List Int} (h : (subT u p).isSome = true) (s : Tm) : putO u p s = putT u p s := by unfold putO; rw [if_pos h]

end Go.Proofs.Ytnmpeodngipfcaa

/- lpo: what is above stays above at a place: plain. -/

namespace Go.Proofs.Ytnmpeodngipfcaa

open Go.RowKit
set_option maxRecDepth 20000

theorem lp_at {pr : List Int} {ar : List Nat} {s t : Tm} (hst : lpT pr s t = true) : ∀ (p : List Int) (u : Tm), (subT u p).isSome = true → Gd ar (putT u p s) → Gd ar (putT u p t) → lpT pr (putT u p s) (putT u p t) = true
  | [], u, _, _, _ => by rw [putT, putT]; exact hst
  | i :: p, u, h, g1, g2 => by
    obtain ⟨v, hv⟩ := Option.isSome_iff_exists.1 h
    obtain ⟨h0, x, hx, hs⟩ := sub_get hv
    have e1 : ∀ r : Tm, putT u (i :: p) r = .node u.fn (u.args.take i.toNat ++ putT x p r :: u.args.drop (i.toNat + 1)) := fun r => by
      rw [putT, hx]
      simp only []
      rw [set_parts hx]
    rw [e1] at g1 g2
    rw [e1, e1]
    exact lp_within (wf_vn _ g1.wf) (lp_at hst p x (by rw [hs]; rfl) (g1.arg (by simp)) (g2.arg (by simp)))

end Go.Proofs.Ytnmpeodngipfcaa

/- Single operations of a region that draws its order (RX): lengths of rows that calls make, sums, tests, what is skipped. -/

namespace Go.Proofs.Ytnmpeodngipfcaa

open Go Go.RowKit Go.Shelf Go.Maps
set_option maxRecDepth 100000

/-- RX's rule, its end boxed. -/
theorem wp_region_factsS {P : Program} {Q : Exit → Act → World → Prop} {id : Nat} {a : Act} {w : World} {l : List Oper} (n : Nat) (dl : List (List (Nat × Option Nat))) (Fs : List Fct) (hm : P.follows .mixedOrders = true) (hk : kindF n l dl = true) (hn : a.tmps.size = n)
    (h : stepsF P Fs a w.drew l dl Fs) (hf : ∀ w', Below w.drew.heap.size w.drew w' → FinS (fun a' w'' => Q .normal a' w'') w' l Fs a) : (Code.region id l.toArray true).wp P Q a w :=
  wp_region_facts n dl Fs hm hk hn h fun w' hb => (hf w' hb).go

/-- A slice of so many. -/
def lenF (n : Nat) : Fct := ⟨fun v _ => ∃ A c, v = .slice A n c, fun h _ => h⟩

section

variable {Fs : List Fct} {a0 : Act} {W : World} {dst : Option Tmp} {ty : TypeId} {pos : String} {after : Array Edge} {guard : Option (Nat × Bool)}

theorem st_load2 {s b : Nat} {x y : Value} (hg : ∀ j want, guard = some (j, want) → ∀ v w, (Fs.getD j Fct.any).p v w → v = .bool want) (hs : a0.eval (.tmp s) = .pointer (some ⟨b, 0, none⟩)) (hW : W.heap[b]? = some (.cells #[x, y] 27)) :
    stepF Try.prog Fs a0 W ⟨dst, .load 27 (.tmp s), ty, pos, after, guard⟩ [(s, none)] (Fct.eq (.agg #[x, y])) := by
  refine .inl ⟨hg, fun a w hb hl => ?_⟩
  have h1 := ev_get (hl.1.trans hs)
  obtain ⟨c0, c1, _, _⟩ := cells_two ((hb.block b (Array.getElem?_eq_some_iff.1 hW).1).trans hW)
  simp [go_sem, leaves, h1, c0, c1]
  exact ⟨Below.refl _ _, rfl⟩

theorem st_skip {o : Oper} {j : Nat} {b : Bool} {ds : List (Nat × Option Nat)} (hg : o.guard = some (j, b)) (hF : Fs.getD j Fct.any = Fct.eq (.bool (!b))) : stepF Try.prog Fs a0 W o ds Fct.any :=
  .inr ⟨⟨j, b, hg, fun v w h => by rw [hF] at h; exact h⟩, fun _ => trivial⟩

theorem st_vars {s j n : Nat} {v : Value} {t : TypeId} (hC : ∀ w, Below W.heap.size W w → Calls Try.prog 25 #[v] w fun e w' => ∃ A c, e = .returned (.slice A n c) ∧ Below w.heap.size w w') (hg : ∀ j want, guard = some (j, want) → ∀ v w, (Fs.getD j Fct.any).p v w → v = .bool want) (hF : Fs.getD j Fct.any = Fct.eq v) :
    stepF Try.prog Fs a0 W ⟨dst, .call ⟨.value (.func 25), #[.tmp s], #[t]⟩, ty, pos, after, guard⟩ [(s, some j)] (lenF n) := by
  refine .inl ⟨hg, fun a w hb hl => ?_⟩
  have h0 := hl.1
  rw [hF] at h0
  have h1 := ev_get h0
  simp [go_sem, leaves, h1]
  refine (hC w hb).mono fun e w' ⟨A, c, he, hw⟩ => ?_
  exact ⟨_, he, hw, A, c, rfl⟩

theorem st_len {s j n : Nat} (hg : ∀ j want, guard = some (j, want) → ∀ v w, (Fs.getD j Fct.any).p v w → v = .bool want) (hF : Fs.getD j Fct.any = lenF n) :
    stepF Try.prog Fs a0 W ⟨dst, .call ⟨.builtin .len, #[.tmp s], #[22]⟩, ty, pos, after, guard⟩ [(s, some j)] (Fct.eq (.int .i64 (n : Int))) := by
  refine .inl ⟨hg, fun a w hb hl => ?_⟩
  have h0 := hl.1
  rw [hF] at h0
  obtain ⟨A, c, h0⟩ := h0
  have h1 := ev_get h0
  simp [go_sem, leaves, h1]
  exact ⟨Below.refl _ _, rfl⟩

theorem st_add {s s' j j' : Nat} {m n : Int} (hg : ∀ j want, guard = some (j, want) → ∀ v w, (Fs.getD j Fct.any).p v w → v = .bool want) (hF : Fs.getD j Fct.any = Fct.eq (.int .i64 m)) (hF' : Fs.getD j' Fct.any = Fct.eq (.int .i64 n)) (hw : IntKind.i64.wrap (m + n) = m + n) :
    stepF Try.prog Fs a0 W ⟨dst, .binOp .add 3 (.tmp s) (.tmp s') 3, ty, pos, after, guard⟩ [(s, some j), (s', some j')] (Fct.eq (.int .i64 (m + n))) := by
  refine .inl ⟨hg, fun a w hb hl => ?_⟩
  have h0 := hl.1
  have h0' := hl.2.1
  rw [hF] at h0
  rw [hF'] at h0'
  have h1 := ev_get h0
  have h2 := ev_get h0'
  simp [go_sem, leaves, h1, h2, hw]
  exact ⟨Below.refl _ _, rfl⟩

theorem st_eqv {s j : Nat} {m k : Int} {b : Bool} (hg : ∀ j want, guard = some (j, want) → ∀ v w, (Fs.getD j Fct.any).p v w → v = .bool want) (hF : Fs.getD j Fct.any = Fct.eq (.int .i64 m)) (hb : (m == k) = b) :
    stepF Try.prog Fs a0 W ⟨dst, .binOp .eql 3 (.tmp s) (.const (.int .i64 k)) 3, ty, pos, after, guard⟩ [(s, some j)] (Fct.eq (.bool b)) := by
  refine .inl ⟨hg, fun a w hb' hl => ?_⟩
  have h0 := hl.1
  rw [hF] at h0
  have h1 := ev_get h0
  simp [go_sem, leaves, h1, hb]
  exact ⟨Below.refl _ _, rfl⟩

theorem st_eqr {s j : Nat} {m k : Int} {b : Bool} (hg : ∀ j want, guard = some (j, want) → ∀ v w, (Fs.getD j Fct.any).p v w → v = .bool want) (hF : Fs.getD j Fct.any = Fct.eq (.int .i64 m)) (hb : (m == k) = b) :
    stepF Try.prog Fs a0 W ⟨dst, .binOp .eql 30 (.tmp s) (.const (.int .i64 k)) 30, ty, pos, after, guard⟩ [(s, some j)] (Fct.eq (.bool b)) := by
  refine .inl ⟨hg, fun a w hb' hl => ?_⟩
  have h0 := hl.1
  rw [hF] at h0
  have h1 := ev_get h0
  simp [go_sem, leaves, h1, hb]
  exact ⟨Below.refl _ _, rfl⟩

theorem st_call3 {f s s' s'' j j' j'' : Nat} {v v' v'' u : Value} {t t' t'' : TypeId} (hent : Go.Proofs.Enters Try.prog f) (hC : ∀ w, Below W.heap.size W w → Calls Try.prog f #[v, v', v''] w fun e w' => e = .returned u ∧ Below w.heap.size w w') (hg : ∀ j want, guard = some (j, want) → ∀ v w, (Fs.getD j Fct.any).p v w → v = .bool want) (hF : Fs.getD j Fct.any = Fct.eq v) (hF' : Fs.getD j' Fct.any = Fct.eq v') (hF'' : Fs.getD j'' Fct.any = Fct.eq v'') :
    stepF Try.prog Fs a0 W ⟨dst, .call ⟨.value (.func f), #[.tmp s, .tmp s', .tmp s''], #[t, t', t'']⟩, ty, pos, after, guard⟩ [(s, some j), (s', some j'), (s'', some j'')] (Fct.eq u) := by
  refine .inl ⟨hg, fun a w hb hl => ?_⟩
  obtain ⟨h0, h0', h0'', _⟩ := hl
  rw [hF] at h0
  rw [hF'] at h0'
  rw [hF''] at h0''
  have h1 := ev_get h0
  have h2 := ev_get h0'
  have h3 := ev_get h0''
  have he := hent #[v, v', v''] w
  simp [go_sem, leaves, h1, h2, h3, he]
  refine (hC w hb).mono fun e w' ⟨he, hw⟩ => ?_
  exact ⟨_, he, hw, rfl⟩

theorem st_pickT {s s' j j' : Nat} {x v : Value} (hg : ∀ j want, guard = some (j, want) → ∀ v w, (Fs.getD j Fct.any).p v w → v = .bool want) (hF : Fs.getD j Fct.any = Fct.eq (.bool true)) (hF' : Fs.getD j' Fct.any = Fct.eq v) :
    stepF Try.prog Fs a0 W ⟨dst, .pick (.tmp s) (.tmp s') (.const x), ty, pos, after, guard⟩ [(s, some j), (s', some j')] (Fct.eq v) := by
  refine .inl ⟨hg, fun a w hb hl => ?_⟩
  have h0 := hl.1
  have h0' := hl.2.1
  rw [hF] at h0
  rw [hF'] at h0'
  have h1 := ev_get h0
  have h2 := ev_get h0'
  simp [go_sem, leaves, h1, h2]
  exact ⟨Below.refl _ _, rfl⟩

theorem st_pickF {s s' j j' : Nat} {x : Value} (hg : ∀ j want, guard = some (j, want) → ∀ v w, (Fs.getD j Fct.any).p v w → v = .bool want) (hF : Fs.getD j Fct.any = Fct.eq (.bool false)) :
    stepF Try.prog Fs a0 W ⟨dst, .pick (.tmp s) (.tmp s') (.const x), ty, pos, after, guard⟩ [(s, some j), (s', some j')] (Fct.eq x) := by
  refine .inl ⟨hg, fun a w hb hl => ?_⟩
  have h0 := hl.1
  rw [hF] at h0
  have h1 := ev_get h0
  simp [go_sem, leaves, h1]
  exact ⟨Below.refl _ _, rfl⟩

end

/-- How many variables stand in a term. -/
def nvT (t : Tm) : Nat := ((vn t).foldl insI []).length

theorem vars_len (t : Tm) (A : Option Addr) (c : Nat) (w : World) (hf : I64 t.fn) (hl : t.size ≤ 4398046511104) (hA : Args w w.heap.size A t.args) :
    Calls Try.prog 25 #[.agg #[.int .i64 t.fn, .slice A t.args.length c]] w fun e w' => ∃ A c, e = .returned (.slice A (nvT t) c) ∧ Below w.heap.size w w' := by
  refine (ref2Vars_any t A c w hf hl hA).mono ?_
  rintro e w' ⟨v, rfl, ⟨A', c', rfl, _⟩, hb⟩
  exact ⟨A', c', rfl, hb⟩

end Go.Proofs.Ytnmpeodngipfcaa

