import Derived.Test.YthgglobfkkcdgaaGreatP49S12
import Derived.Test.YthgglobfkkcdgaaGreatP49S1
import Derived.Test.YthgglobfkkcdgaaGreatP49S2
namespace Go.Proofs.YthgglobfkkcdgaaGreat
open Go.RowKit Go.Shelf Go.Maps
set_option maxRecDepth 100000
section
variable {n bp bf : Nat} {P : Option Addr} {rk : List Int} {pc : Nat} {A : Option Addr} {H : List Hd} {hc : Nat} {ml : Value} {M : List (Int × Int)}
def AbvAt (n bp bf : Nat) (P : Option Addr) (rk : List Int) (pc : Nat) (A : Option Addr) (H : List Hd) (hc : Nat) (ml : Value) (M : List (Int × Int)) (m : Nat) : Prop :=
  ∀ (s t : Tm) (i j : Nat) (w : World), s.size + t.size ≤ m → OkT rk.length M s → OkT rk.length M t → AtT rk.length M H i s → AtT rk.length M H j t → FdW w n bp bf P rk pc A H hc ml (fdF rk rk.length M) →
    Calls Tryz.prog 46 #[.agg #[.pointer (some ⟨bp, 0, none⟩), .int .i64 (i : Int)], .agg #[.pointer (some ⟨bp, 0, none⟩), .int .i64 (j : Int)]] w fun e w' => e = .returned (.bool (lpT rk s t)) ∧ KeepsC (· = bf) w w' ∧ FdW w' n bp bf P rk pc A H hc ml (fdF rk rk.length M)
theorem AbvAt.hld {m : Nat} (h : AbvAt n bp bf P rk pc A H hc ml M m) {s : Tm} {i : Nat} (hs : OkT rk.length M s) (hat : AtT rk.length M H i s) :
    HldC 46 #[.agg #[.pointer (some ⟨bp, 0, none⟩), .int .i64 (i : Int)]] #[] (lpT rk s) (fun x => OkT rk.length M x ∧ s.size + x.size ≤ m) (fun w => FdW w n bp bf P rk pc A H hc ml (fdF rk rk.length M)) n bp bf P rk pc A H hc ml M where
  ent := fun args w => by rfl
  call := fun x j w hS hx _ hI => h s x i j w hS.2 hs hS.1 hat hx hI
  stay := fun w w' hI hk => hI.stay hk
  pr := fun w hI => hI.pr
set_option maxHeartbeats 1000000 in
theorem lpoReached_any {m : Nat} (h : AbvAt n bp bf P rk pc A H hc ml M m) (hM : M.Nodup) {x t : Tm} {i j : Nat} (w : World) (hx : OkT rk.length M x) (ht : OkT rk.length M t) (hix : AtT rk.length M H i x) (hjt : AtT rk.length M H j t) (hz : x.size + t.size ≤ m) (hI : FdW w n bp bf P rk pc A H hc ml (fdF rk rk.length M)) :
    Calls Tryz.prog 108 #[.agg #[.pointer (some ⟨bp, 0, none⟩), .int .i64 (j : Int)], .agg #[.pointer (some ⟨bp, 0, none⟩), .int .i64 (i : Int)]] w fun e w' => e = .returned (.bool (decide (cmpT x t = 0) || lpT rk x t)) ∧ KeepsC (· = bf) w w' ∧ FdW w' n bp bf P rk pc A H hc ml (fdF rk rk.length M) := by
  obtain ⟨q0, q1⟩ := heap2 w (.cells #[.pointer (some ⟨bp, 0, none⟩), .int .i64 (j : Int)] 74) (.cells #[.pointer (some ⟨bp, 0, none⟩), .int .i64 (i : Int)] 74)
  obtain ⟨W, hW⟩ : ∃ W, (w.alloc (.cells #[.pointer (some ⟨bp, 0, none⟩), .int .i64 (j : Int)] 74)).alloc (.cells #[.pointer (some ⟨bp, 0, none⟩), .int .i64 (i : Int)] 74) = W := ⟨_, rfl⟩
  have hB : Below w.heap.size w W := by rw [← hW]; exact ((Below.refl _ _).alloc (Nat.le_refl _) _).alloc (by simp) _
  rw [hW] at q0 q1
  have hlt := (Array.getElem?_eq_some_iff.1 q1).1
  obtain ⟨x0, x1, _, _⟩ := cells_two q0
  obtain ⟨y0, y1, _, _⟩ := cells_two q1
  have hIW := hI.on hB
  have hsm := lpoSame_any W hIW.pr hix.top' hjt.top'
  rw [topH_same hM hx ht] at hsm
  have HW := Lib.hid hW
  have HI := Lib.hid hIW
  have HA : Hid (∀ w1, FdW w1 n bp bf P rk pc A H hc ml (fdF rk rk.length M) → Calls Tryz.prog 46 #[.agg #[.pointer (some ⟨bp, 0, none⟩), .int .i64 (i : Int)], .agg #[.pointer (some ⟨bp, 0, none⟩), .int .i64 (j : Int)]] w1 fun e w' => e = .returned (.bool (lpT rk x t)) ∧ KeepsC (· = bf) w1 w' ∧ FdW w' n bp bf P rk pc A H hc ml (fdF rk rk.length M)) := Lib.hid fun w1 h1 => h x t i j w1 hz hx ht hix hjt h1
  have HQ0 := Lib.hid q0
  have HQ1 := Lib.hid q1
  clear hW q0 q1 hI hIW h hix hjt
  cases hc0 : decide (cmpT x t = 0) with
  | true =>
    rw [hc0] at hsm
    have Hsm := Lib.hid hsm
    clear hsm hc0
    go_enter Tryz.func108, Tryz.ntmps108
    go_upto_region 1 with fail
    rw [HW.out]
    go_wp2_with (first
      | (go_at_call 45; (with_reducible refine Hsm.out.mono ?_); go_must (rintro e w1 ⟨rfl, hb1⟩))
      | fail)
    go_ret
    exact ⟨rfl, (KeepsC.of_below hB).trans (KeepsC.of_below hb1), HI.out.on hb1⟩
  | false =>
    rw [hc0] at hsm
    have Hsm := Lib.hid hsm
    clear hsm hc0
    go_enter Tryz.func108, Tryz.ntmps108
    go_upto_region 1 with fail
    rw [HW.out]
    go_wp2_with (first
      | (go_at_call 45; (with_reducible refine Hsm.out.mono ?_); go_must (rintro e w1 ⟨rfl, hb1⟩; obtain ⟨u0, u1, _, _⟩ := cells_two ((hb1.block _ (show w.heap.size < W.heap.size by omega)).trans HQ0.out); obtain ⟨v0, v1, _, _⟩ := cells_two ((hb1.block _ hlt).trans HQ1.out); have HI1 := Lib.hid (HI.out.on hb1)))
      | (go_at_call 46; (with_reducible refine (HA.out w1 HI1.out).mono ?_); go_must (rintro e w2 ⟨rfl, hk2, hI2⟩; have HI2 := Lib.hid hI2; clear hI2))
      | fail)
    go_ret
    exact ⟨rfl, ((KeepsC.of_below hB).trans (KeepsC.of_below hb1)).trans hk2, HI2.out⟩
theorem AbvAt.hldR {m : Nat} (h : AbvAt n bp bf P rk pc A H hc ml M m) (hM : M.Nodup) {t : Tm} {j : Nat} (ht : OkT rk.length M t) (hjt : AtT rk.length M H j t) :
    HldC 108 #[.agg #[.pointer (some ⟨bp, 0, none⟩), .int .i64 (j : Int)]] #[] (fun x => decide (cmpT x t = 0) || lpT rk x t) (fun x => OkT rk.length M x ∧ x.size + t.size ≤ m) (fun w => FdW w n bp bf P rk pc A H hc ml (fdF rk rk.length M)) n bp bf P rk pc A H hc ml M where
  ent := fun args w => by rfl
  call := fun x i w hS hx _ hI => lpoReached_any h hM w hS.1 ht hx hjt hS.2 hI
  stay := fun w w' hI hk => hI.stay hk
  pr := fun w hI => hI.pr
set_option maxHeartbeats 2000000 in
theorem lpoOutranks_any {m : Nat} (h : AbvAt n bp bf P rk pc A H hc ml M m) (hH : H.length ≤ 1099511627776) {s t : Tm} {i j : Nat} (w : World) (hs : OkT rk.length M s) (ht : OkT rk.length M t) (his : AtT rk.length M H i s) (hjt : AtT rk.length M H j t) (hz : s.size + t.size ≤ m + 1) (hI : FdW w n bp bf P rk pc A H hc ml (fdF rk rk.length M)) :
    Calls Tryz.prog 83 #[.agg #[.pointer (some ⟨bp, 0, none⟩), .int .i64 (i : Int)], .agg #[.pointer (some ⟨bp, 0, none⟩), .int .i64 (j : Int)]] w fun e w' => e = .returned (.bool (outB rk s t)) ∧ KeepsC (· = bf) w w' ∧ FdW w' n bp bf P rk pc A H hc ml (fdF rk rk.length M) := by
  obtain ⟨q0, q1⟩ := heap2 w (.cells #[.pointer (some ⟨bp, 0, none⟩), .int .i64 (i : Int)] 74) (.cells #[.pointer (some ⟨bp, 0, none⟩), .int .i64 (j : Int)] 74)
  obtain ⟨W, hW⟩ : ∃ W, (w.alloc (.cells #[.pointer (some ⟨bp, 0, none⟩), .int .i64 (i : Int)] 74)).alloc (.cells #[.pointer (some ⟨bp, 0, none⟩), .int .i64 (j : Int)] 74) = W := ⟨_, rfl⟩
  have hB : Below w.heap.size w W := by rw [← hW]; exact ((Below.refl _ _).alloc (Nat.le_refl _) _).alloc (by simp) _
  rw [hW] at q0 q1
  have hlt := (Array.getElem?_eq_some_iff.1 q1).1
  obtain ⟨x0, x1, _, _⟩ := cells_two q0
  obtain ⟨y0, y1, _, _⟩ := cells_two q1
  have hIW := hI.on hB
  have hl0 := hI.nl
  have hl1 := hI.lf
  have hI' : ∀ y : LatF W bf (fun w => FdW w n bp bf P rk pc A H hc ml (fdF rk rk.length M)), FdW y.w n bp bf P rk pc A H hc ml (fdF rk rk.length M) := fun y => y.i hIW
  have hst : ∀ a b : World, FdW a n bp bf P rk pc A H hc ml (fdF rk rk.length M) → Below a.heap.size a b → FdW b n bp bf P rk pc A H hc ml (fdF rk rk.length M) := fun a b h hb => h.on hb
  have hjl := hjt.lt
  have H1 : Hid (∀ y : LatF W bf (fun w => FdW w n bp bf P rk pc A H hc ml (fdF rk rk.length M)), Calls Tryz.prog 100 #[.agg #[.pointer (some ⟨bp, 0, none⟩), .int .i64 (i : Int)], .agg #[.pointer (some ⟨bp, 0, none⟩), .int .i64 (j : Int)]] y.w fun e w' => e = .returned (.bool (higB rk s t)) ∧ Below y.w.heap.size y.w w') := Lib.hid fun y => lpoHigher_any y.w (hI' y).pr his.top' hjt.top' hs.fn_lt ht.fn_lt
  have H2 : Hid (∀ y : LatF W bf (fun w => FdW w n bp bf P rk pc A H hc ml (fdF rk rk.length M)), Calls Tryz.prog 101 #[.agg #[.pointer (some ⟨bp, 0, none⟩), .int .i64 (j : Int)]] y.w fun e w' => e = .returned (.agg #[.pointer (some ⟨bp, 0, none⟩), .int .i64 ((j : Int) + 1), .int .i64 ((j : Int) + (t.size : Int))]) ∧ Below y.w.heap.size y.w w') := Lib.hid fun y => lpoArgs_any y.w (hI' y).pr hjt.top' ⟨by show _ ≤ (j : Int) + (t.size : Int); omega, by show (j : Int) + (t.size : Int) ≤ _; omega⟩
  have H3 : Hid (∀ y : LatF W bf (fun w => FdW w n bp bf P rk pc A H hc ml (fdF rk rk.length M)), Calls Tryz.prog 102 #[.agg #[.pointer (some ⟨bp, 0, none⟩), .int .i64 ((j : Int) + 1), .int .i64 ((j : Int) + (t.size : Int))], .func (.func 46) #[.agg #[.pointer (some ⟨bp, 0, none⟩), .int .i64 (i : Int)]] #[]] y.w fun e w' => e = .returned (.bool (t.args.all fun y => lpT rk s y)) ∧ KeepsC (· = bf) y.w w' ∧ (FdW y.w n bp bf P rk pc A H hc ml (fdF rk rk.length M) → FdW w' n bp bf P rk pc A H hc ml (fdF rk rk.length M))) := Lib.hid fun y =>
    (lpoEach_any (h.hld hs his) hl1 hH t.args (j + 1) (j + t.size) y.w hjt.args (fun x hx => ⟨ht.arg hx, by have := size_args hx; omega⟩) (hI' y).nl (hI' y)).mono fun e w' ⟨h1, h2, h3⟩ => ⟨h1, h2, fun _ => h3⟩
  have m0 : ∀ y : LatF W bf (fun w => FdW w n bp bf P rk pc A H hc ml (fdF rk rk.length M)), y.w.cell? ⟨w.heap.size, 0, none⟩ = some (.pointer (some ⟨bp, 0, none⟩)) := fun y => y.cell (by omega) (by omega) x0
  have m1 : ∀ y : LatF W bf (fun w => FdW w n bp bf P rk pc A H hc ml (fdF rk rk.length M)), y.w.cell? ⟨w.heap.size, 1, none⟩ = some (.int .i64 (i : Int)) := fun y => y.cell (by omega) (by omega) x1
  have m2 : ∀ y : LatF W bf (fun w => FdW w n bp bf P rk pc A H hc ml (fdF rk rk.length M)), y.w.cell? ⟨w.heap.size + 1, 0, none⟩ = some (.pointer (some ⟨bp, 0, none⟩)) := fun y => y.cell (by omega) (by omega) y0
  have m3 : ∀ y : LatF W bf (fun w => FdW w n bp bf P rk pc A H hc ml (fdF rk rk.length M)), y.w.cell? ⟨w.heap.size + 1, 1, none⟩ = some (.int .i64 (j : Int)) := fun y => y.cell (by omega) (by omega) y1
  have hmf : ∀ (fn : Fn) (first cap : Array Value) (w : World), (Instr.makeFunc fn first cap).run Tryz.prog w = .ok (.func fn first cap) w := fun _ _ _ _ => rfl
  have HW := Lib.hid hW
  have HI := Lib.hid hIW
  have HK := Lib.hid (KeepsC.of_below (C := (· = bf)) hB)
  cases hh : higB rk s t with
  | false =>
    have hfin := Lib.hid (show outB rk s t = false by unfold outB; rw [hh]; rfl)
    rw [hh] at H1
    clear hW q0 q1 hI hIW h his hjt hh x0 x1 y0 y1 hlt hjl
    go_enter Tryz.func83, Tryz.ntmps83
    go_upto_region 1 with fail
    rw [HW.out]
    refine wp_region_lat W bf (fun w => FdW w n bp bf P rk pc A H hc ml (fdF rk rk.length M)) (by kernel_rfl) (by kernel_rfl) (KeepsC.of_below (bl_drewN (Below.refl _ _) 1)) (fun h => h.on (bl_drewN (Below.refl _ _) 1)) ?_
    repeat (go_big_quiet_step (first
      | (go_at_call 100; with_reducible refine calls_latB _ hst (H1.out _))
      | fail))
    refine wpQuiet_nil ?_
    rintro _ ⟨z, rfl⟩
    clear m0 m1 m2 m3
    go_wp2
    go_ret
    exact ⟨ret_bool hfin.out.symm, HK.out.trans z.h, z.i HI.out⟩
  | true =>
    have hfin := Lib.hid (show outB rk s t = (t.args.all fun y => lpT rk s y) by unfold outB; rw [hh]; rfl)
    rw [hh] at H1
    obtain ⟨r, hr⟩ : ∃ r, (t.args.all fun y => lpT rk s y) = r := ⟨_, rfl⟩
    rw [hr] at H3 hfin
    clear hW q0 q1 hI hIW h his hjt hh x0 x1 y0 y1 hlt hjl hr
    go_enter Tryz.func83, Tryz.ntmps83
    go_upto_region 1 with fail
    rw [HW.out]
    refine wp_region_lat W bf (fun w => FdW w n bp bf P rk pc A H hc ml (fdF rk rk.length M)) (by kernel_rfl) (by kernel_rfl) (KeepsC.of_below (bl_drewN (Below.refl _ _) 1)) (fun h => h.on (bl_drewN (Below.refl _ _) 1)) ?_
    repeat (go_big_quiet_step (first
      | (go_at_call 100; with_reducible refine calls_latB _ hst (H1.out _))
      | (go_at_call 101; with_reducible refine calls_latB _ hst (H2.out _))
      | (go_at_call 102; with_reducible refine calls_latF _ (H3.out _))
      | fail))
    refine wpQuiet_nil ?_
    rintro _ ⟨z, rfl⟩
    clear m0 m1 m2 m3
    go_wp2
    go_ret
    exact ⟨ret_bool hfin.out.symm, HK.out.trans z.h, z.i HI.out⟩
end
end Go.Proofs.YthgglobfkkcdgaaGreat
namespace Go.Proofs.YthgglobfkkcdgaaGreat
open Go.RowKit Go.Shelf Go.Maps
set_option maxRecDepth 100000
theorem run_slice_heads (b off n c lo sz : Nat) (hz : 0 < sz) (h : lo + sz ≤ c) (w : World) : (Instr.slice 92 (.slice (some ⟨b, off, none⟩) n c) (some (.int .i64 (lo : Int))) (some (.int .i64 ((lo : Int) + (sz : Int)))) none).run Tryz.prog w = .ok (.slice (some ⟨b, off + lo * 3, none⟩) sz (c - lo)) w := by
  have h1 : ((lo : Int) + (sz : Int)).toNat = lo + sz := by omega
  simp [Instr.slice, Instr.sliceBounds, Instr.sliceBound, asIntOf, run_underlying Tryz.underlying92, go_sem]
  rw [if_pos ⟨by omega, by omega⟩, if_pos (by omega), if_neg (by omega), h1, Nat.add_sub_cancel_left]
def idxH (y : Hd) : Nat → List Hd → Int
  | _, [] => -1
  | k, x :: xs => if hdB y x then (k : Int) else idxH y (k + 1) xs
theorem idxH_any (y : Hd) : ∀ (xs : List Hd) (k : Nat), decide (0 ≤ idxH y k xs) = xs.any (hdB y)
  | [], k => by rw [idxH]; rfl
  | x :: xs, k => by
    rw [idxH, List.any_cons]
    by_cases h : hdB y x = true
    · rw [if_pos h, h, Bool.true_or, decide_eq_true (show (0 : Int) ≤ (k : Int) by omega)]
    · rw [if_neg h, idxH_any y xs (k + 1), Bool.eq_false_iff.2 h, Bool.false_or]
theorem idxH_drop {y : Hd} {xs : List Hd} {k : Nat} {x : Hd} (h : xs[k]? = some x) : idxH y k (xs.drop k) = if hdB y x then (k : Int) else idxH y (k + 1) (xs.drop (k + 1)) := by
  obtain ⟨h1, h2⟩ := List.getElem?_eq_some_iff.1 h
  rw [List.drop_eq_getElem_cons h1, h2, idxH]
def HdsAt (w : World) (b off : Nat) (hs : List Hd) : Prop := ∀ (i : Nat) (x : Hd), hs[i]? = some x → w.cell? ⟨b, off + i * 3, none⟩ = some (.int .i64 x.fn) ∧ w.cell? ⟨b, off + i * 3 + 1, none⟩ = some (.int .i64 x.sz) ∧ w.cell? ⟨b, off + i * 3 + 1 + 1, none⟩ = some (.int .i64 x.no)
set_option maxHeartbeats 1000000 in
theorem lpoIndex_any (b off c : Nat) (hs : List Hd) (y : Hd) (w : World) (hl : hs.length ≤ 1099511627776) (hb : b < w.heap.size) (hc : HdsAt w b off hs) :
    Calls Tryz.prog 115 #[.slice (some ⟨b, off, none⟩) hs.length c, .agg #[.int .i64 y.fn, .int .i64 y.sz, .int .i64 y.no]] w fun e w' => e = .returned (.int .i64 (idxH y 0 hs)) ∧ Below w.heap.size w w' := by
  obtain ⟨W, hW⟩ : ∃ W, w.alloc (.cells #[.int .i64 y.fn, .int .i64 y.sz, .int .i64 y.no] 97) = W := ⟨_, rfl⟩
  have q0 := heap_alloc_new w (.cells #[.int .i64 y.fn, .int .i64 y.sz, .int .i64 y.no] 97)
  have hB : Below w.heap.size w W := by rw [← hW]; exact (Below.refl _ _).alloc (Nat.le_refl _) _
  rw [hW] at q0
  obtain ⟨x0, x1, x2, _⟩ := cells3 q0
  have HC : Hid (HdsAt W b off hs) := Lib.hid fun i x hx => ⟨cell_on hB hb (hc i x hx).1, cell_on hB hb (hc i x hx).2.1, cell_on hB hb (hc i x hx).2.2⟩
  have HW := Lib.hid hW
  have Hq0 := Lib.hid q0
  have hbW : b < W.heap.size := Nat.lt_of_lt_of_le hb hB.size
  have HE0 : Hid (idxH y 0 hs = idxH y 0 (hs.drop 0)) := Lib.hid rfl
  clear hW hc q0
  go_enter Tryz.func115, Tryz.ntmps115
  go_upto_region 1 with fail
  rw [HW.out]
  go_upto_region 2 with fail
  go_loopw [8] (fun i wr => ∃ k : Nat, k ≤ hs.length ∧ i = .int .i64 (k : Int) ∧ Below W.heap.size W wr ∧ Hid (idxH y 0 hs = idxH y k (hs.drop k))) (fun i _ => hs.length - (intOf i).toNat)
  case atStart => exact ⟨0, Nat.zero_le _, rfl, Below.refl _ _, HE0⟩
  case round =>
    obtain ⟨k, hk, rfl, hBr, HE⟩ := hrel
    obtain ⟨z0, z1, z2, _⟩ := cells3 ((hBr.block _ (Array.getElem?_eq_some_iff.1 Hq0.out).1).trans Hq0.out)
    by_cases hlt : k < hs.length
    · obtain ⟨x, hx⟩ : ∃ x, hs[k]? = some x := ⟨_, List.getElem?_eq_getElem hlt⟩
      obtain ⟨c0, c1, c2⟩ := HC.out k x hx
      replace c0 := cell_on hBr hbW c0
      replace c1 := cell_on hBr hbW c1
      replace c2 := cell_on hBr hbW c2
      have hd := idxH_drop (y := y) hx
      have heq := run_eql_head y.fn y.sz y.no x.fn x.sz x.no
      cases hq : hdB y x with
      | true =>
        have hfin := Lib.hid (show idxH y 0 hs = (k : Int) by rw [HE.out, hd, hq]; rfl)
        rw [hq] at heq
        clear hd hx hq
        go_upto_region 4 with fail
        go_region
        go_wp2
        go_ret
        exact ⟨ret_int hfin.out.symm, (hB.trans (hBr.mono hB.size)).drew⟩
      | false =>
        have hfin := Lib.hid (show idxH y 0 hs = idxH y (k + 1) (hs.drop (k + 1)) by rw [HE.out, hd, hq]; rfl)
        rw [hq] at heq
        clear hd hx hq
        go_upto_region 4 with fail
        go_region
        go_wp2
        go_roundw
        case rel => exact ⟨k + 1, by omega, by go_num, hBr.drew, hfin⟩
        case measure => simp [intOf]; omega
    · obtain rfl : k = hs.length := by omega
      have hfin := Lib.hid (show idxH y 0 hs = -1 by rw [HE.out, List.drop_length, idxH])
      go_wp2
      go_ret
      exact ⟨ret_int hfin.out.symm, hB.trans (hBr.mono hB.size)⟩
set_option maxHeartbeats 1000000 in
theorem lpoContains0_any (b off c : Nat) (hs : List Hd) (y : Hd) (w : World) (hl : hs.length ≤ 1099511627776) (hb : b < w.heap.size) (hc : HdsAt w b off hs) :
    Calls Tryz.prog 98 #[.slice (some ⟨b, off, none⟩) hs.length c, .agg #[.int .i64 y.fn, .int .i64 y.sz, .int .i64 y.no]] w fun e w' => e = .returned (.bool (hs.any (hdB y))) ∧ Below w.heap.size w w' := by
  obtain ⟨W, hW⟩ : ∃ W, w.alloc (.cells #[.int .i64 y.fn, .int .i64 y.sz, .int .i64 y.no] 97) = W := ⟨_, rfl⟩
  have q0 := heap_alloc_new w (.cells #[.int .i64 y.fn, .int .i64 y.sz, .int .i64 y.no] 97)
  have hB : Below w.heap.size w W := by rw [← hW]; exact (Below.refl _ _).alloc (Nat.le_refl _) _
  rw [hW] at q0
  obtain ⟨x0, x1, x2, _⟩ := cells3 q0
  have HC := Lib.hid (lpoIndex_any b off c hs y W hl (Nat.lt_of_lt_of_le hb hB.size) fun i x hx => ⟨cell_on hB hb (hc i x hx).1, cell_on hB hb (hc i x hx).2.1, cell_on hB hb (hc i x hx).2.2⟩)
  have HE := Lib.hid (idxH_any y hs 0)
  obtain ⟨r, hr⟩ : ∃ r, idxH y 0 hs = r := ⟨_, rfl⟩
  rw [hr] at HC HE
  have HW := Lib.hid hW
  clear hW hc q0 hr
  go_enter Tryz.func98, Tryz.ntmps98
  go_upto_region 1 with fail
  rw [HW.out]
  go_wp2_with (first
    | (go_at_call 115; (with_reducible refine HC.out.mono ?_); go_must (rintro e w1 ⟨rfl, hb1⟩))
    | fail)
  go_ret
  exact ⟨ret_bool HE.out, hB.trans (hb1.mono hB.size)⟩
end Go.Proofs.YthgglobfkkcdgaaGreat
namespace Go.Proofs.YthgglobfkkcdgaaGreat
open Go.RowKit Go.Shelf Go.Maps
set_option maxRecDepth 100000
theorem AtT.hds {R : Nat} {M : List (Int × Int)} {H : List Hd} {i b off : Nat} {s : Tm} {w : World} (h : AtT R M H i s) (hc : ∀ (k : Nat) (x : Hd), H[k]? = some x → w.cell? ⟨b, off + k * 3, none⟩ = some (.int .i64 x.fn) ∧ w.cell? ⟨b, off + k * 3 + 1, none⟩ = some (.int .i64 x.sz) ∧ w.cell? ⟨b, off + k * 3 + 1 + 1, none⟩ = some (.int .i64 x.no)) : HdsAt w b (off + i * 3) (hsT R M s) := by
  intro k x hx
  have hl := (List.getElem?_eq_some_iff.1 hx).1
  rw [hsT_len] at hl
  rw [← h.part, List.getElem?_take, if_pos hl, List.getElem?_drop] at hx
  have := hc (i + k) x hx
  rw [show off + i * 3 + k * 3 = off + (i + k) * 3 by omega]
  exact this
section
variable {n bp bf : Nat} {P : Option Addr} {rk : List Int} {pc : Nat} {A : Option Addr} {H : List Hd} {hc : Nat} {ml : Value} {M : List (Int × Int)}
set_option maxHeartbeats 4000000 in
theorem lpoContains_any (hM : M.Nodup) (hH : H.length ≤ 1099511627776) {s t : Tm} {i j : Nat} (w : World) (hs : OkT rk.length M s) (ht : OkT rk.length M t) (his : AtT rk.length M H i s) (hjt : AtT rk.length M H j t) (hI : FdW w n bp bf P rk pc A H hc ml (fdF rk rk.length M)) :
    Calls Tryz.prog 82 #[.agg #[.pointer (some ⟨bp, 0, none⟩), .int .i64 (i : Int)], .agg #[.pointer (some ⟨bp, 0, none⟩), .int .i64 (j : Int)]] w fun e w' => e = .returned (.bool (contB s t)) ∧ KeepsC (· = bf) w w' ∧ FdW w' n bp bf P rk pc A H hc ml (fdF rk rk.length M) := by
  obtain ⟨q0, q1⟩ := heap2 w (.cells #[.pointer (some ⟨bp, 0, none⟩), .int .i64 (i : Int)] 74) (.cells #[.pointer (some ⟨bp, 0, none⟩), .int .i64 (j : Int)] 74)
  obtain ⟨W, hW⟩ : ∃ W, (w.alloc (.cells #[.pointer (some ⟨bp, 0, none⟩), .int .i64 (i : Int)] 74)).alloc (.cells #[.pointer (some ⟨bp, 0, none⟩), .int .i64 (j : Int)] 74) = W := ⟨_, rfl⟩
  have hB : Below w.heap.size w W := by rw [← hW]; exact ((Below.refl _ _).alloc (Nat.le_refl _) _).alloc (by simp) _
  rw [hW] at q0 q1
  have hlt := (Array.getElem?_eq_some_iff.1 q1).1
  obtain ⟨x0, x1, _, _⟩ := cells_two q0
  obtain ⟨y0, y1, _, _⟩ := cells_two q1
  have hIW := hI.on hB
  have hPW := hIW.pr
  have hcp := hI.cp
  have hil := his.lt
  have hz := size_pos s
  obtain ⟨p0, p1, _, _⟩ := cells_four hPW.box
  obtain ⟨b, off, rfl, hbB, hcs⟩ := hPW.hds.ad (by omega)
  have hds := his.hds hcs
  have hbpl := hPW.lt
  have V1 : ∀ y : Later W.heap.size W, Calls Tryz.prog 97 #[.agg #[.pointer (some ⟨bp, 0, none⟩), .int .i64 (j : Int)]] y.w fun e w' => e = .returned (.bool (decide (t.fn < 0))) ∧ Below y.w.heap.size y.w w' := fun y => lpoVariable_any y.w (hPW.on y.h) hjt.top'
  have V2 : ∀ y : Later W.heap.size W, Calls Tryz.prog 97 #[.agg #[.pointer (some ⟨bp, 0, none⟩), .int .i64 (i : Int)]] y.w fun e w' => e = .returned (.bool (decide (s.fn < 0))) ∧ Below y.w.heap.size y.w w' := fun y => lpoVariable_any y.w (hPW.on y.h) his.top'
  have H3 : Hid (∀ y : Later W.heap.size W, Calls Tryz.prog 99 #[.agg #[.pointer (some ⟨bp, 0, none⟩), .int .i64 (i : Int)]] y.w fun e w' => e = .returned (.int .i64 ((i : Int) + (s.size : Int))) ∧ Below y.w.heap.size y.w w') := Lib.hid fun y => lpoEnd_any y.w (hPW.on y.h) his.top' ⟨by show _ ≤ (i : Int) + (s.size : Int); omega, by show (i : Int) + (s.size : Int) ≤ _; omega⟩
  have H4 : Hid (∀ y : Later W.heap.size W, Calls Tryz.prog 65 #[.agg #[.pointer (some ⟨bp, 0, none⟩), .int .i64 (j : Int)]] y.w fun e w' => e = .returned (.agg #[.int .i64 (topH rk.length M t).fn, .int .i64 (topH rk.length M t).sz, .int .i64 (topH rk.length M t).no]) ∧ Below y.w.heap.size y.w w') := Lib.hid fun y => lpoHead_any y.w (hPW.on y.h) hjt.top'
  have H5 : Hid (∀ y : Later W.heap.size W, Calls Tryz.prog 98 #[.slice (some ⟨b, off + i * 3, none⟩) s.size (hc - i), .agg #[.int .i64 (topH rk.length M t).fn, .int .i64 (topH rk.length M t).sz, .int .i64 (topH rk.length M t).no]] y.w fun e w' => e = .returned (.bool ((hsT rk.length M s).any (hdB (topH rk.length M t)))) ∧ Below y.w.heap.size y.w w') := Lib.hid fun y => by
    have h1 := lpoContains0_any b (off + i * 3) (hc - i) (hsT rk.length M s) (topH rk.length M t) y.w (by rw [hsT_len]; omega) (Nat.lt_of_lt_of_le hbB y.h.size) fun k x hx => ⟨cell_on y.h hbB (hds k x hx).1, cell_on y.h hbB (hds k x hx).2.1, cell_on y.h hbB (hds k x hx).2.2⟩
    rw [hsT_len] at h1
    exact h1
  obtain ⟨hd, hhd⟩ : ∃ hd, topH rk.length M t = hd := ⟨_, rfl⟩
  have hsl : ∀ w : World, (Instr.slice 92 (.slice (some ⟨b, off, none⟩) H.length hc) (some (.int .i64 (i : Int))) (some (.int .i64 ((i : Int) + (s.size : Int)))) none).run Tryz.prog w = .ok (.slice (some ⟨b, off + i * 3, none⟩) s.size (hc - i)) w := fun w => run_slice_heads b off H.length hc i s.size (by omega) (by omega) w
  have m0 : ∀ y : Later W.heap.size W, y.w.cell? ⟨w.heap.size, 0, none⟩ = some (.pointer (some ⟨bp, 0, none⟩)) := fun y => cell_on y.h (by omega) x0
  have m1 : ∀ y : Later W.heap.size W, y.w.cell? ⟨w.heap.size, 1, none⟩ = some (.int .i64 (i : Int)) := fun y => cell_on y.h (by omega) x1
  have m2 : ∀ y : Later W.heap.size W, y.w.cell? ⟨w.heap.size + 1, 0, none⟩ = some (.pointer (some ⟨bp, 0, none⟩)) := fun y => cell_on y.h hlt y0
  have m3 : ∀ y : Later W.heap.size W, y.w.cell? ⟨w.heap.size + 1, 1, none⟩ = some (.int .i64 (j : Int)) := fun y => cell_on y.h hlt y1
  have m4 : ∀ y : Later W.heap.size W, y.w.cell? ⟨bp, 1, none⟩ = some (.slice (some ⟨b, off, none⟩) H.length hc) := fun y => cell_on y.h hbpl p1
  have HW := Lib.hid hW
  have HI := Lib.hid hIW
  have HB := Lib.hid hB
  by_cases htv : t.fn < 0
  · have hany := hs_var hM ht htv s hs
    simp only [decide_eq_true htv] at V1
    have HV1 := Lib.hid V1
    by_cases hsv : s.fn < 0
    · have hfin := Lib.hid (show contB s t = false by unfold contB; rw [decide_eq_true hsv]; simp)
      simp only [decide_eq_true hsv] at V2
      have HV2 := Lib.hid V2
      clear hW q0 q1 hI hIW his hjt x0 x1 y0 y1 hlt hPW hcs hds p0 p1 V1 V2 hany hB hsl hhd hil hcp hbB hbpl hs ht htv hsv
      go_enter Tryz.func82, Tryz.ntmps82
      go_upto_region 1 with fail
      rw [HW.out]
      refine wp_region_later W.heap.size W (by kernel_rfl) (by kernel_rfl) (bl_drewN (Below.refl _ _) 1) ?_
      repeat (go_big_quiet_step (first
        | (go_at_call 97; first
          | (with_reducible refine calls_later _ (Nat.le_refl _) (HV1.out _))
          | (with_reducible refine calls_later _ (Nat.le_refl _) (HV2.out _)))
        | fail))
      refine wpQuiet_nil ?_
      rintro _ ⟨z, rfl⟩
      clear m0 m1 m2 m3 m4
      go_wp2
      go_ret
      exact ⟨ret_bool hfin.out.symm, (KeepsC.of_below HB.out).trans (KeepsC.of_below z.h), HI.out.on z.h⟩
    · have hfin := Lib.hid (show contB s t = (hsT rk.length M s).any (hdB hd) by
        rw [← hhd, hany]; unfold contB; rw [decide_eq_true htv, decide_eq_false hsv]; rfl)
      simp only [decide_eq_false hsv] at V2
      have HV2 := Lib.hid V2
      rw [hhd] at H4 H5
      obtain ⟨r, hr⟩ : ∃ r, (hsT rk.length M s).any (hdB hd) = r := ⟨_, rfl⟩
      rw [hr] at H5 hfin
      clear hW q0 q1 hI hIW his hjt x0 x1 y0 y1 hlt hPW hcs hds p0 p1 V1 V2 hany hB hhd hil hcp hbB hbpl hr hs ht htv hsv
      go_enter Tryz.func82, Tryz.ntmps82
      go_upto_region 1 with fail
      rw [HW.out]
      refine wp_region_later W.heap.size W (by kernel_rfl) (by kernel_rfl) (bl_drewN (Below.refl _ _) 1) ?_
      repeat (go_big_quiet_step (first
        | (go_at_call 97; first
          | (with_reducible refine calls_later _ (Nat.le_refl _) (HV1.out _))
          | (with_reducible refine calls_later _ (Nat.le_refl _) (HV2.out _)))
        | (go_at_call 99; with_reducible refine calls_later _ (Nat.le_refl _) (H3.out _))
        | (go_at_call 65; with_reducible refine calls_later _ (Nat.le_refl _) (H4.out _))
        | (go_at_call 98; with_reducible refine calls_later _ (Nat.le_refl _) (H5.out _))
        | fail))
      refine wpQuiet_nil ?_
      rintro _ ⟨z, rfl⟩
      clear m0 m1 m2 m3 m4
      go_wp2
      go_ret
      exact ⟨ret_bool hfin.out.symm, (KeepsC.of_below HB.out).trans (KeepsC.of_below z.h), HI.out.on z.h⟩
  · have hfin := Lib.hid (show contB s t = false by unfold contB; rw [decide_eq_false htv]; rfl)
    simp only [decide_eq_false htv] at V1
    have HV1 := Lib.hid V1
    clear hW q0 q1 hI hIW his hjt x0 x1 y0 y1 hlt hPW hcs hds p0 p1 V1 V2 hB hsl hhd hil hcp hbB hbpl hs ht htv
    go_enter Tryz.func82, Tryz.ntmps82
    go_upto_region 1 with fail
    rw [HW.out]
    refine wp_region_later W.heap.size W (by kernel_rfl) (by kernel_rfl) (bl_drewN (Below.refl _ _) 1) ?_
    repeat (go_big_quiet_step (first
      | (go_at_call 97; with_reducible refine calls_later _ (Nat.le_refl _) (HV1.out _))
      | fail))
    refine wpQuiet_nil ?_
    rintro _ ⟨z, rfl⟩
    clear m0 m1 m2 m3 m4
    go_wp2
    go_ret
    exact ⟨ret_bool hfin.out.symm, (KeepsC.of_below HB.out).trans (KeepsC.of_below z.h), HI.out.on z.h⟩
end
end Go.Proofs.YthgglobfkkcdgaaGreat
namespace Go.Proofs.YthgglobfkkcdgaaGreat
open Go.RowKit Go.Shelf Go.Maps
set_option maxRecDepth 100000
theorem heap4r (w : World) (o0 o1 o2 o3 : Obj) : ((((w.alloc o0).alloc o1).alloc o2).alloc o3).heap[w.heap.size]? = some o0 ∧ ((((w.alloc o0).alloc o1).alloc o2).alloc o3).heap[w.heap.size + 1]? = some o1 ∧ ((((w.alloc o0).alloc o1).alloc o2).alloc o3).heap[w.heap.size + 1 + 1]? = some o2 ∧ ((((w.alloc o0).alloc o1).alloc o2).alloc o3).heap[w.heap.size + 1 + 1 + 1]? = some o3 := by
  have e0 := heap_alloc_new w o0
  have e1 := heap_alloc_new (w.alloc o0) o1
  have e2 := heap_alloc_new ((w.alloc o0).alloc o1) o2
  have e3 := heap_alloc_new (((w.alloc o0).alloc o1).alloc o2) o3
  have s : ∀ (v : World) (o : Obj), (v.alloc o).heap.size = v.heap.size + 1 := fun v o => by simp
  rw [s] at e1
  rw [s, s] at e2
  rw [s, s, s] at e3
  refine ⟨?_, ?_, ?_, e3⟩
  · rw [Below.heap_alloc _ _ _ (by simp; omega), Below.heap_alloc _ _ _ (by simp; omega), Below.heap_alloc _ _ _ (by simp)]; exact e0
  · rw [Below.heap_alloc _ _ _ (by simp), Below.heap_alloc _ _ _ (by simp)]; exact e1
  · rw [Below.heap_alloc _ _ _ (by simp)]; exact e2
section
variable {R : Nat} {M : List (Int × Int)}
theorem difL_at {H : List Hd} : ∀ (xs ys : List Tm) (i j k l : Nat), AtL R M H i j xs → AtL R M H k l ys → AtL R M H (j - sizes (difL xs ys).1) j (difL xs ys).1 ∧ AtL R M H (l - sizes (difL xs ys).2) l (difL xs ys).2
  | [], ys, i, j, k, l, h1, h2 => by
    have e1 := h1.le.2
    have e2 := h2.le.2
    have hd : difL [] ys = ([], ys) := by rw [difL]; simp
    rw [hd]
    refine ⟨?_, ?_⟩
    · rw [show j - sizes ([] : List Tm) = i by rw [e1]; omega]; exact h1
    · rw [show l - sizes ys = k by omega]; exact h2
  | x :: xs, [], i, j, k, l, h1, h2 => by
    have e1 := h1.le.2
    have e2 := h2.le.2
    have hd : difL (x :: xs) [] = (x :: xs, []) := by rw [difL]; simp
    rw [hd]
    refine ⟨?_, ?_⟩
    · rw [show j - sizes (x :: xs) = i by omega]; exact h1
    · rw [show l - sizes ([] : List Tm) = k by rw [e2]; omega]; exact h2
  | x :: xs, y :: ys, i, j, k, l, h1, h2 => by
    by_cases e : cmpT x y = 0
    · have hd : difL (x :: xs) (y :: ys) = difL xs ys := by rw [difL, if_pos e]
      rw [hd]
      exact difL_at xs ys _ j _ l h1.rest h2.rest
    · have e1 := h1.le.2
      have e2 := h2.le.2
      have hd : difL (x :: xs) (y :: ys) = (x :: xs, y :: ys) := by rw [difL, if_neg e]
      rw [hd]
      refine ⟨?_, ?_⟩
      · rw [show j - sizes (x :: xs) = i by omega]; exact h1
      · rw [show l - sizes (y :: ys) = k by omega]; exact h2
end
theorem dif_next {w z : World} {p0 p1 p2 q0 q1 q2 a b c a' b' c' : Value} (h0 : z.heap[w.heap.size]? = some (.cells #[a, b, c] 137)) (h1 : z.heap[w.heap.size + 1]? = some (.cells #[a', b', c'] 137)) :
    ((((((z.setCell ⟨w.heap.size, 0, none⟩ p0).setCell ⟨w.heap.size, 1, none⟩ p1).setCell ⟨w.heap.size, 2, none⟩ p2).setCell ⟨w.heap.size + 1, 0, none⟩ q0).setCell ⟨w.heap.size + 1, 1, none⟩ q1).setCell ⟨w.heap.size + 1, 2, none⟩ q2).heap[w.heap.size]? = some (.cells #[p0, p1, p2] 137) ∧
    ((((((z.setCell ⟨w.heap.size, 0, none⟩ p0).setCell ⟨w.heap.size, 1, none⟩ p1).setCell ⟨w.heap.size, 2, none⟩ p2).setCell ⟨w.heap.size + 1, 0, none⟩ q0).setCell ⟨w.heap.size + 1, 1, none⟩ q1).setCell ⟨w.heap.size + 1, 2, none⟩ q2).heap[w.heap.size + 1]? = some (.cells #[q0, q1, q2] 137) ∧
    ∀ g, ¬ g = w.heap.size → ¬ g = w.heap.size + 1 → ((((((z.setCell ⟨w.heap.size, 0, none⟩ p0).setCell ⟨w.heap.size, 1, none⟩ p1).setCell ⟨w.heap.size, 2, none⟩ p2).setCell ⟨w.heap.size + 1, 0, none⟩ q0).setCell ⟨w.heap.size + 1, 1, none⟩ q1).setCell ⟨w.heap.size + 1, 2, none⟩ q2).heap[g]? = z.heap[g]? := by
  have o1 : ∀ (V : World) (p q r : Value) (g : Nat), ¬ g = w.heap.size → (((V.setCell ⟨w.heap.size, 0, none⟩ p).setCell ⟨w.heap.size, 1, none⟩ q).setCell ⟨w.heap.size, 2, none⟩ r).heap[g]? = V.heap[g]? := fun V p q r g hne => (heap_setCell_other _ _ _ _ hne).trans ((heap_setCell_other _ _ _ _ hne).trans (heap_setCell_other _ _ _ _ hne))
  have o2 : ∀ (V : World) (p q r : Value) (g : Nat), ¬ g = w.heap.size + 1 → (((V.setCell ⟨w.heap.size + 1, 0, none⟩ p).setCell ⟨w.heap.size + 1, 1, none⟩ q).setCell ⟨w.heap.size + 1, 2, none⟩ r).heap[g]? = V.heap[g]? := fun V p q r g hne => (heap_setCell_other _ _ _ _ hne).trans ((heap_setCell_other _ _ _ _ hne).trans (heap_setCell_other _ _ _ _ hne))
  exact ⟨(o2 _ _ _ _ _ (by omega)).trans (set3 h0), set3 ((o1 _ _ _ _ _ (by omega)).trans h1), fun g h2 h3 => (o2 _ _ _ _ g h3).trans (o1 _ _ _ _ g h2)⟩
theorem dif_below {w z : World} {x0 x1 x2 y0 y1 y2 : Value} (h : Below w.heap.size w z) : Below w.heap.size w ((((((z.setCell ⟨w.heap.size + 1 + 1, 0, none⟩ x0).setCell ⟨w.heap.size + 1 + 1, 1, none⟩ x1).setCell ⟨w.heap.size + 1 + 1, 2, none⟩ x2).setCell ⟨w.heap.size + 1 + 1 + 1, 0, none⟩ y0).setCell ⟨w.heap.size + 1 + 1 + 1, 1, none⟩ y1).setCell ⟨w.heap.size + 1 + 1 + 1, 2, none⟩ y2) :=
  below3 (below3 h (by omega)) (by omega)
theorem dif_res {w z : World} {i' k' j l bp : Nat} {a b c a' b' c' : Value} (h2 : z.heap[w.heap.size + 1 + 1]? = some (.cells #[a, b, c] 137)) (h3 : z.heap[w.heap.size + 1 + 1 + 1]? = some (.cells #[a', b', c'] 137)) :
    let Wf := ((((((z.setCell ⟨w.heap.size + 1 + 1, 0, none⟩ (.pointer (some ⟨bp, 0, none⟩))).setCell ⟨w.heap.size + 1 + 1, 1, none⟩ (.int .i64 (i' : Int))).setCell ⟨w.heap.size + 1 + 1, 2, none⟩ (.int .i64 (j : Int))).setCell ⟨w.heap.size + 1 + 1 + 1, 0, none⟩ (.pointer (some ⟨bp, 0, none⟩))).setCell ⟨w.heap.size + 1 + 1 + 1, 1, none⟩ (.int .i64 (k' : Int))).setCell ⟨w.heap.size + 1 + 1 + 1, 2, none⟩ (.int .i64 (l : Int))).drew
    Wf.cell? ⟨w.heap.size + 1 + 1, 0, none⟩ = some (.pointer (some ⟨bp, 0, none⟩)) ∧ Wf.cell? ⟨w.heap.size + 1 + 1, 1, none⟩ = some (.int .i64 (i' : Int)) ∧ Wf.cell? ⟨w.heap.size + 1 + 1, 2, none⟩ = some (.int .i64 (j : Int)) ∧ Wf.cell? ⟨w.heap.size + 1 + 1 + 1, 0, none⟩ = some (.pointer (some ⟨bp, 0, none⟩)) ∧ Wf.cell? ⟨w.heap.size + 1 + 1 + 1, 1, none⟩ = some (.int .i64 (k' : Int)) ∧ Wf.cell? ⟨w.heap.size + 1 + 1 + 1, 2, none⟩ = some (.int .i64 (l : Int)) := by
  intro Wf
  have hne : ¬ w.heap.size + 1 + 1 = w.heap.size + 1 + 1 + 1 := by omega
  have o1 : ∀ (V : World) (p q r : Value), (((V.setCell ⟨w.heap.size + 1 + 1, 0, none⟩ p).setCell ⟨w.heap.size + 1 + 1, 1, none⟩ q).setCell ⟨w.heap.size + 1 + 1, 2, none⟩ r).heap[w.heap.size + 1 + 1 + 1]? = V.heap[w.heap.size + 1 + 1 + 1]? := fun V p q r => (heap_setCell_other _ _ _ _ (Ne.symm hne)).trans ((heap_setCell_other _ _ _ _ (Ne.symm hne)).trans (heap_setCell_other _ _ _ _ (Ne.symm hne)))
  have o2 : ∀ (V : World) (p q r : Value), (((V.setCell ⟨w.heap.size + 1 + 1 + 1, 0, none⟩ p).setCell ⟨w.heap.size + 1 + 1 + 1, 1, none⟩ q).setCell ⟨w.heap.size + 1 + 1 + 1, 2, none⟩ r).heap[w.heap.size + 1 + 1]? = V.heap[w.heap.size + 1 + 1]? := fun V p q r => (heap_setCell_other _ _ _ _ hne).trans ((heap_setCell_other _ _ _ _ hne).trans (heap_setCell_other _ _ _ _ hne))
  have e2 := set3 (x' := .pointer (some ⟨bp, 0, none⟩)) (y' := .int .i64 (i' : Int)) (z' := .int .i64 (j : Int)) h2
  have e4 := set3 (x' := .pointer (some ⟨bp, 0, none⟩)) (y' := .int .i64 (k' : Int)) (z' := .int .i64 (l : Int)) ((o1 z (.pointer (some ⟨bp, 0, none⟩)) (.int .i64 (i' : Int)) (.int .i64 (j : Int))).trans h3)
  have e5 := (o2 (((z.setCell ⟨w.heap.size + 1 + 1, 0, none⟩ (.pointer (some ⟨bp, 0, none⟩))).setCell ⟨w.heap.size + 1 + 1, 1, none⟩ (.int .i64 (i' : Int))).setCell ⟨w.heap.size + 1 + 1, 2, none⟩ (.int .i64 (j : Int))) (.pointer (some ⟨bp, 0, none⟩)) (.int .i64 (k' : Int)) (.int .i64 (l : Int))).trans e2
  obtain ⟨c0, c1, c2, _, _, _⟩ := cells3 e5
  obtain ⟨d0, d1, d2, _, _, _⟩ := cells3 e4
  have hd : ∀ (V : World) (a : Addr), V.drew.cell? a = V.cell? a := fun _ _ => rfl
  exact ⟨(hd _ _).trans c0, (hd _ _).trans c1, (hd _ _).trans c2, (hd _ _).trans d0, (hd _ _).trans d1, (hd _ _).trans d2⟩
structure DifI (w wr : World) (bp : Nat) (R : Nat) (M : List (Int × Int)) (H : List Hd) (xs ys : List Tm) (j l : Nat) (xs' ys' : List Tm) (i' k' : Nat) : Prop where
  bl : Below w.heap.size w wr
  b0 : wr.heap[w.heap.size]? = some (.cells #[.pointer (some ⟨bp, 0, none⟩), .int .i64 (i' : Int), .int .i64 (j : Int)] 137)
  b1 : wr.heap[w.heap.size + 1]? = some (.cells #[.pointer (some ⟨bp, 0, none⟩), .int .i64 (k' : Int), .int .i64 (l : Int)] 137)
  b2 : wr.heap[w.heap.size + 1 + 1]? = some (.cells #[.pointer none, .int .i64 0, .int .i64 0] 137)
  b3 : wr.heap[w.heap.size + 1 + 1 + 1]? = some (.cells #[.pointer none, .int .i64 0, .int .i64 0] 137)
  a0 : AtL R M H i' j xs'
  a1 : AtL R M H k' l ys'
  ev : difL xs ys = difL xs' ys'
  o0 : ∀ x ∈ xs', OkT R M x
  o1 : ∀ y ∈ ys', OkT R M y
section
variable {n bp bf : Nat} {P : Option Addr} {rk : List Int} {pc : Nat} {A : Option Addr} {H : List Hd} {hc : Nat} {ml mf : Value} {M : List (Int × Int)}
set_option maxHeartbeats 1000000 in
theorem lpoDiffering_any (hM : M.Nodup) (hH : H.length ≤ 1099511627776) (xs ys : List Tm) (i j k l : Nat) (w : World) (hox : ∀ x ∈ xs, OkT rk.length M x) (hoy : ∀ y ∈ ys, OkT rk.length M y) (hax : AtL rk.length M H i j xs) (hay : AtL rk.length M H k l ys) (hP : PairR w bp P rk pc A H hc ml mf) :
    Calls Tryz.prog 103 #[.agg #[.pointer (some ⟨bp, 0, none⟩), .int .i64 (i : Int), .int .i64 (j : Int)], .agg #[.pointer (some ⟨bp, 0, none⟩), .int .i64 (k : Int), .int .i64 (l : Int)]] w fun e w' => e = .returned (.tuple #[.agg #[.pointer (some ⟨bp, 0, none⟩), .int .i64 ((j - sizes (difL xs ys).1 : Nat) : Int), .int .i64 (j : Int)], .agg #[.pointer (some ⟨bp, 0, none⟩), .int .i64 ((l - sizes (difL xs ys).2 : Nat) : Int), .int .i64 (l : Int)]]) ∧ Below w.heap.size w w' := by
  obtain ⟨q0, q1, q2, q3⟩ := heap4r w (.cells #[.pointer (some ⟨bp, 0, none⟩), .int .i64 (i : Int), .int .i64 (j : Int)] 137) (.cells #[.pointer (some ⟨bp, 0, none⟩), .int .i64 (k : Int), .int .i64 (l : Int)] 137) (.cells #[.pointer none, .int .i64 0, .int .i64 0] 137) (.cells #[.pointer none, .int .i64 0, .int .i64 0] 137)
  obtain ⟨W, hW⟩ : ∃ W, ((((w.alloc (.cells #[.pointer (some ⟨bp, 0, none⟩), .int .i64 (i : Int), .int .i64 (j : Int)] 137)).alloc (.cells #[.pointer (some ⟨bp, 0, none⟩), .int .i64 (k : Int), .int .i64 (l : Int)] 137)).alloc (.cells #[.pointer none, .int .i64 0, .int .i64 0] 137)).alloc (.cells #[.pointer none, .int .i64 0, .int .i64 0] 137)) = W := ⟨_, rfl⟩
  have hB : Below w.heap.size w W := by rw [← hW]; exact ((((Below.refl _ _).alloc (Nat.le_refl _) _).alloc (by simp) _).alloc (by simp; omega) _).alloc (by simp; omega) _
  rw [hW] at q0 q1 q2 q3
  have HI0 : Hid (DifI w W bp rk.length M H xs ys j l xs ys i k) := Lib.hid ⟨hB, q0, q1, q2, q3, hax, hay, rfl, hox, hoy⟩
  have HW := Lib.hid hW
  have HP := Lib.hid hP
  clear hW q0 q1 q2 q3 hB hax hay hox hoy hP
  go_enter Tryz.func103, Tryz.ntmps103
  go_upto_region 1 with fail
  rw [HW.out]
  go_loopg [] xs.length (fun gk wr => Hid (∃ (xs' ys' : List Tm) (i' k' : Nat), DifI w wr bp rk.length M H xs ys j l xs' ys' i' k' ∧ xs'.length ≤ gk))
  case atStart => exact Lib.hid ⟨xs, ys, i, k, HI0.out, Nat.le_refl _⟩
  case round =>
    obtain ⟨xs', ys', i', k', hI, hgk⟩ := hrel.out
    have hb0 := (Array.getElem?_eq_some_iff.1 hI.b0).1
    have hb1 := (Array.getElem?_eq_some_iff.1 hI.b1).1
    have hb2 := (Array.getElem?_eq_some_iff.1 hI.b2).1
    have hb3 := (Array.getElem?_eq_some_iff.1 hI.b3).1
    obtain ⟨x0, x1, x2, _, _, _⟩ := cells3 hI.b0
    obtain ⟨y0, y1, y2, _, _, _⟩ := cells3 hI.b1
    have m0 : ∀ y : Later wr.heap.size wr, y.w.cell? ⟨w.heap.size, 0, none⟩ = some (.pointer (some ⟨bp, 0, none⟩)) := fun y => cell_on y.h hb0 x0
    have m1 : ∀ y : Later wr.heap.size wr, y.w.cell? ⟨w.heap.size, 1, none⟩ = some (.int .i64 (i' : Int)) := fun y => cell_on y.h hb0 x1
    have m2 : ∀ y : Later wr.heap.size wr, y.w.cell? ⟨w.heap.size, 2, none⟩ = some (.int .i64 (j : Int)) := fun y => cell_on y.h hb0 x2
    have m3 : ∀ y : Later wr.heap.size wr, y.w.cell? ⟨w.heap.size + 1, 0, none⟩ = some (.pointer (some ⟨bp, 0, none⟩)) := fun y => cell_on y.h hb1 y0
    have m4 : ∀ y : Later wr.heap.size wr, y.w.cell? ⟨w.heap.size + 1, 1, none⟩ = some (.int .i64 (k' : Int)) := fun y => cell_on y.h hb1 y1
    have m5 : ∀ y : Later wr.heap.size wr, y.w.cell? ⟨w.heap.size + 1, 2, none⟩ = some (.int .i64 (l : Int)) := fun y => cell_on y.h hb1 y2
    have HPr := Lib.hid (HP.out.on (HI0.out.bl.trans (Below.refl _ _)) |>.on (Below.refl _ _))
    have E1 : ∀ y : Later wr.heap.size wr, Calls Tryz.prog 104 #[.agg #[.pointer (some ⟨bp, 0, none⟩), .int .i64 (i' : Int), .int .i64 (j : Int)]] y.w fun e w' => e = .returned (.bool (decide ((j : Int) ≤ (i' : Int)))) ∧ Below y.w.heap.size y.w w' := fun y => lpoEmpty_any _ _ _ y.w
    have E2 : ∀ y : Later wr.heap.size wr, Calls Tryz.prog 104 #[.agg #[.pointer (some ⟨bp, 0, none⟩), .int .i64 (k' : Int), .int .i64 (l : Int)]] y.w fun e w' => e = .returned (.bool (decide ((l : Int) ≤ (k' : Int)))) ∧ Below y.w.heap.size y.w w' := fun y => lpoEmpty_any _ _ _ y.w
    have F1 : Hid (∀ y : Later wr.heap.size wr, Calls Tryz.prog 105 #[.agg #[.pointer (some ⟨bp, 0, none⟩), .int .i64 (i' : Int), .int .i64 (j : Int)]] y.w fun e w' => e = .returned (.agg #[.pointer (some ⟨bp, 0, none⟩), .int .i64 (i' : Int)]) ∧ Below y.w.heap.size y.w w') := Lib.hid fun y => lpoFirst_any _ _ y.w
    have F2 : Hid (∀ y : Later wr.heap.size wr, Calls Tryz.prog 105 #[.agg #[.pointer (some ⟨bp, 0, none⟩), .int .i64 (k' : Int), .int .i64 (l : Int)]] y.w fun e w' => e = .returned (.agg #[.pointer (some ⟨bp, 0, none⟩), .int .i64 (k' : Int)]) ∧ Below y.w.heap.size y.w w') := Lib.hid fun y => lpoFirst_any _ _ y.w
    have hw0 : PairR wr bp P rk pc A H hc ml mf := HP.out.on hI.bl
    have HI := Lib.hid hI
    match xs', ys', hI, HI, hgk with
    | [], ys', hI, HI, hgk =>
      have e1 := hI.a0.empty
      have hd : difL xs ys = ([], ys') := by rw [hI.ev, difL]; simp
      have hfin : Hid (j - sizes (difL xs ys).1 = i' ∧ l - sizes (difL xs ys).2 = k') := Lib.hid (by
        have h2 := hI.a1.le.2
        have h3 := hI.a0.le.2
        rw [hd]; simp only []; omega)
      simp only [decide_eq_true (show (j : Int) ≤ (i' : Int) by omega)] at E1
      have E1 := Lib.hid E1
      clear e1 hd hI hgk hrel x0 x1 x2 y0 y1 y2 hw0 HPr
      go_upto_region 1 with fail
      refine wp_region_later wr.heap.size wr (by kernel_rfl) (by kernel_rfl) (bl_drewN (Below.refl _ _) 1) ?_
      repeat (go_big_quiet_step (first
        | (go_at_call 104; first
          | (with_reducible refine calls_later _ (Nat.le_refl _) (E1.out _)))
        | (go_at_call 105; first
          | (with_reducible refine calls_later _ (Nat.le_refl _) (F1.out _))
          | (with_reducible refine calls_later _ (Nat.le_refl _) (F2.out _)))
        | fail))
      refine wpQuiet_nil ?_
      rintro _ ⟨z, rfl⟩
      clear m0 m1 m2 m3 m4 m5
      have Z0 := Lib.hid ((z.h.block _ hb0).trans HI.out.b0)
      have Z1 := Lib.hid ((z.h.block _ hb1).trans HI.out.b1)
      have Z2 := Lib.hid ((z.h.block _ hb2).trans HI.out.b2)
      have Z3 := Lib.hid ((z.h.block _ hb3).trans HI.out.b3)
      obtain ⟨a0, a1, a2, _, _, _⟩ := cells3 Z0.out
      obtain ⟨b0, b1, b2, _, _, _⟩ := cells3 Z1.out
      obtain ⟨c0, c1, c2, f0, f1, f2⟩ := cells3 Z2.out
      obtain ⟨d0, d1, d2, g0, g1, g2⟩ := cells3 Z3.out
      go_upto_region 3 with fail
      go_region
      go_wp2
      obtain ⟨e0, e1, e2, e3, e4, e5⟩ := dif_res (w := w) (z := z.w) (i' := i') (k' := k') (j := j) (l := l) (bp := bp) Z2.out Z3.out
      refine bodyPost_ret (v := .tuple #[.agg #[.pointer (some ⟨bp, 0, none⟩), .int .i64 (i' : Int), .int .i64 (j : Int)], .agg #[.pointer (some ⟨bp, 0, none⟩), .int .i64 (k' : Int), .int .i64 (l : Int)]]) (by simp [results, Tryz.results103, go_sem, e0, e1, e2, e3, e4, e5]) rfl ⟨?_, ?_⟩
      · rw [hfin.out.1, hfin.out.2]
      · exact (dif_below (HI.out.bl.trans (z.h.mono HI.out.bl.size))).drew
    | x :: xs', [], hI, HI, hgk =>
      have e2 := hI.a1.empty
      have h3 := hI.a0.le.2
      have hzx := size_pos x
      rw [sizes] at h3
      have hd : difL xs ys = (x :: xs', []) := by rw [hI.ev, difL]; simp
      have hfin : Hid (j - sizes (difL xs ys).1 = i' ∧ l - sizes (difL xs ys).2 = k') := Lib.hid (by
        rw [hd]; simp only [sizes]; omega)
      simp only [decide_eq_false (show ¬ (j : Int) ≤ (i' : Int) by omega)] at E1
      simp only [decide_eq_true (show (l : Int) ≤ (k' : Int) by omega)] at E2
      have E1 := Lib.hid E1
      have E2 := Lib.hid E2
      clear e2 h3 hd hI hgk hrel x0 x1 x2 y0 y1 y2 hw0 HPr
      go_upto_region 1 with fail
      refine wp_region_later wr.heap.size wr (by kernel_rfl) (by kernel_rfl) (bl_drewN (Below.refl _ _) 1) ?_
      repeat (go_big_quiet_step (first
        | (go_at_call 104; first
          | (with_reducible refine calls_later _ (Nat.le_refl _) (E1.out _))
          | (with_reducible refine calls_later _ (Nat.le_refl _) (E2.out _)))
        | (go_at_call 105; first
          | (with_reducible refine calls_later _ (Nat.le_refl _) (F1.out _))
          | (with_reducible refine calls_later _ (Nat.le_refl _) (F2.out _)))
        | fail))
      refine wpQuiet_nil ?_
      rintro _ ⟨z, rfl⟩
      clear m0 m1 m2 m3 m4 m5
      have Z0 := Lib.hid ((z.h.block _ hb0).trans HI.out.b0)
      have Z1 := Lib.hid ((z.h.block _ hb1).trans HI.out.b1)
      have Z2 := Lib.hid ((z.h.block _ hb2).trans HI.out.b2)
      have Z3 := Lib.hid ((z.h.block _ hb3).trans HI.out.b3)
      obtain ⟨a0, a1, a2, _, _, _⟩ := cells3 Z0.out
      obtain ⟨b0, b1, b2, _, _, _⟩ := cells3 Z1.out
      obtain ⟨c0, c1, c2, f0, f1, f2⟩ := cells3 Z2.out
      obtain ⟨d0, d1, d2, g0, g1, g2⟩ := cells3 Z3.out
      go_upto_region 3 with fail
      go_region
      go_wp2
      obtain ⟨e0, e1, e2, e3, e4, e5⟩ := dif_res (w := w) (z := z.w) (i' := i') (k' := k') (j := j) (l := l) (bp := bp) Z2.out Z3.out
      refine bodyPost_ret (v := .tuple #[.agg #[.pointer (some ⟨bp, 0, none⟩), .int .i64 (i' : Int), .int .i64 (j : Int)], .agg #[.pointer (some ⟨bp, 0, none⟩), .int .i64 (k' : Int), .int .i64 (l : Int)]]) (by simp [results, Tryz.results103, go_sem, e0, e1, e2, e3, e4, e5]) rfl ⟨?_, ?_⟩
      · rw [hfin.out.1, hfin.out.2]
      · exact (dif_below (HI.out.bl.trans (z.h.mono HI.out.bl.size))).drew
    | x :: xs', y :: ys', hI, HI, hgk =>
      have h3 := hI.a0.le
      have h4 := hI.a1.le
      have hzx := size_pos x
      have hzy := size_pos y
      rw [sizes] at h3 h4
      simp only [decide_eq_false (show ¬ (j : Int) ≤ (i' : Int) by omega)] at E1
      simp only [decide_eq_false (show ¬ (l : Int) ≤ (k' : Int) by omega)] at E2
      have E1 := Lib.hid E1
      have E2 := Lib.hid E2
      have SM : ∀ u : Later wr.heap.size wr, Calls Tryz.prog 45 #[.agg #[.pointer (some ⟨bp, 0, none⟩), .int .i64 (i' : Int)], .agg #[.pointer (some ⟨bp, 0, none⟩), .int .i64 (k' : Int)]] u.w fun e w' => e = .returned (.bool (decide (cmpT x y = 0))) ∧ Below u.w.heap.size u.w w' := fun u => by
        have := lpoSame_any u.w (hw0.on u.h) hI.a0.first.top' hI.a1.first.top'
        rwa [topH_same hM (hI.o0 x (by simp)) (hI.o1 y (by simp))] at this
      by_cases hxy : cmpT x y = 0
      · simp only [decide_eq_true hxy] at SM
        have SM := Lib.hid SM
        have R1 : Hid (∀ w1, Below wr.heap.size wr w1 → Calls Tryz.prog 106 #[.agg #[.pointer (some ⟨bp, 0, none⟩), .int .i64 (i' : Int), .int .i64 (j : Int)]] w1 fun e w' => e = .returned (.agg #[.pointer (some ⟨bp, 0, none⟩), .int .i64 ((i' : Int) + (x.size : Int)), .int .i64 (j : Int)]) ∧ Below w1.heap.size w1 w') := Lib.hid fun w1 hb => lpoRest_any w1 (hw0.on hb) hI.a0.first.top' ⟨by show _ ≤ (i' : Int) + (x.size : Int); omega, by show (i' : Int) + (x.size : Int) ≤ _; omega⟩ (by omega)
        have R2 : Hid (∀ w1, Below wr.heap.size wr w1 → Calls Tryz.prog 106 #[.agg #[.pointer (some ⟨bp, 0, none⟩), .int .i64 (k' : Int), .int .i64 (l : Int)]] w1 fun e w' => e = .returned (.agg #[.pointer (some ⟨bp, 0, none⟩), .int .i64 ((k' : Int) + (y.size : Int)), .int .i64 (l : Int)]) ∧ Below w1.heap.size w1 w') := Lib.hid fun w1 hb => lpoRest_any w1 (hw0.on hb) hI.a1.first.top' ⟨by show _ ≤ (k' : Int) + (y.size : Int); omega, by show (k' : Int) + (y.size : Int) ≤ _; omega⟩ (by omega)
        have hstep : Hid (∀ w', Below w.heap.size w w' → w'.heap[w.heap.size]? = some (.cells #[.pointer (some ⟨bp, 0, none⟩), .int .i64 ((i' : Int) + (x.size : Int)), .int .i64 (j : Int)] 137) → w'.heap[w.heap.size + 1]? = some (.cells #[.pointer (some ⟨bp, 0, none⟩), .int .i64 ((k' : Int) + (y.size : Int)), .int .i64 (l : Int)] 137) →
            w'.heap[w.heap.size + 1 + 1]? = some (.cells #[.pointer none, .int .i64 0, .int .i64 0] 137) → w'.heap[w.heap.size + 1 + 1 + 1]? = some (.cells #[.pointer none, .int .i64 0, .int .i64 0] 137) → DifI w w' bp rk.length M H xs ys j l xs' ys' (i' + x.size) (k' + y.size)) := Lib.hid fun w' hb c0 c1 c2 c3 =>
          ⟨hb, by rw [Int.natCast_add]; exact c0, by rw [Int.natCast_add]; exact c1, c2, c3, hI.a0.rest, hI.a1.rest, by rw [hI.ev, difL, if_pos hxy], fun u hu => hI.o0 u (by simp [hu]), fun u hu => hI.o1 u (by simp [hu])⟩
        have hlen : xs'.length < gk := by rw [List.length_cons] at hgk; omega
        clear h3 h4 hI hgk hrel x0 x1 x2 y0 y1 y2 hw0 HPr hxy
        go_upto_region 1 with fail
        refine wp_region_later wr.heap.size wr (by kernel_rfl) (by kernel_rfl) (bl_drewN (Below.refl _ _) 1) ?_
        repeat (go_big_quiet_step (first
          | (go_at_call 104; first
            | (with_reducible refine calls_later _ (Nat.le_refl _) (E1.out _))
            | (with_reducible refine calls_later _ (Nat.le_refl _) (E2.out _)))
          | (go_at_call 105; first
            | (with_reducible refine calls_later _ (Nat.le_refl _) (F1.out _))
            | (with_reducible refine calls_later _ (Nat.le_refl _) (F2.out _)))
          | (go_at_call 45; with_reducible refine calls_later _ (Nat.le_refl _) (SM.out _))
          | fail))
        refine wpQuiet_nil ?_
        rintro _ ⟨z, rfl⟩
        clear m0 m1 m2 m3 m4 m5
        have hbz := HI.out.bl.trans (z.h.mono HI.out.bl.size)
        obtain ⟨a0, a1, a2, f0, f1, f2⟩ := cells3 ((z.h.block _ hb0).trans HI.out.b0)
        obtain ⟨b0, b1, b2, g0, g1, g2⟩ := cells3 ((z.h.block _ hb1).trans HI.out.b1)
        go_upto_region 2 with fail
        have hzd : Below wr.heap.size wr z.w.drew := z.h.drew
        go_region_law
          (first
            | (go_simp
               go_at_call 106
               (with_reducible refine (R1.out _ hzd).mono ?_)
               rintro e w3 ⟨rfl, hx3⟩
               have hB3 : Below wr.heap.size wr w3 := z.h.trans ((show Below z.w.heap.size z.w w3 from ⟨hx3.os, hx3.tape, hx3.output, hx3.size, hx3.block⟩).mono z.h.size)
               obtain ⟨r0, r1, r2, s0, s1, s2⟩ := cells3 ((hB3.block _ hb1).trans HI.out.b1)
               dsimp only)
            | (go_simp
               go_at_call 106
               (with_reducible refine (R2.out _ hB3).mono ?_)
               rintro e w4 ⟨rfl, hb4⟩
               have hB4 : Below wr.heap.size wr w4 := hB3.trans (hb4.mono hB3.size)
               have T0 := Lib.hid ((hB4.block _ hb0).trans HI.out.b0)
               have T1 := Lib.hid ((hB4.block _ hb1).trans HI.out.b1)
               obtain ⟨u0, u1, u2, k0, k1, k2⟩ := cells3 T0.out
               obtain ⟨v0, v1, v2, l0, l1, l2⟩ := cells3 T1.out
               dsimp only)
            | fail)
        all_goals
          go_wp2
          go_roundg xs'.length
          case measure => exact hlen
          case rel =>
            have hS := dif_next (w := w) (z := w4) (p0 := .pointer (some ⟨bp, 0, none⟩)) (p1 := .int .i64 ((i' : Int) + (x.size : Int))) (p2 := .int .i64 (j : Int)) (q0 := .pointer (some ⟨bp, 0, none⟩)) (q1 := .int .i64 ((k' : Int) + (y.size : Int))) (q2 := .int .i64 (l : Int)) T0.out T1.out
            obtain ⟨s0, s1, s2⟩ := hS
            exact Lib.hid ⟨xs', ys', i' + x.size, k' + y.size, hstep.out _ (below3 (below3 (HI.out.bl.trans (hB4.mono HI.out.bl.size)) (Nat.le_refl _)) (by omega)) s0 s1 ((s2 _ (by omega) (by omega)).trans ((hB4.block _ hb2).trans HI.out.b2)) ((s2 _ (by omega) (by omega)).trans ((hB4.block _ hb3).trans HI.out.b3)), Nat.le_refl _⟩
      · simp only [decide_eq_false hxy] at SM
        have SM := Lib.hid SM
        have hd : difL xs ys = (x :: xs', y :: ys') := by rw [hI.ev, difL, if_neg hxy]
        have hfin : Hid (j - sizes (difL xs ys).1 = i' ∧ l - sizes (difL xs ys).2 = k') := Lib.hid (by
          rw [hd]; simp only [sizes]; omega)
        clear h3 h4 hd hI hgk hrel x0 x1 x2 y0 y1 y2 hw0 HPr hxy
        go_upto_region 1 with fail
        refine wp_region_later wr.heap.size wr (by kernel_rfl) (by kernel_rfl) (bl_drewN (Below.refl _ _) 1) ?_
        repeat (go_big_quiet_step (first
          | (go_at_call 104; first
            | (with_reducible refine calls_later _ (Nat.le_refl _) (E1.out _))
            | (with_reducible refine calls_later _ (Nat.le_refl _) (E2.out _)))
          | (go_at_call 105; first
            | (with_reducible refine calls_later _ (Nat.le_refl _) (F1.out _))
            | (with_reducible refine calls_later _ (Nat.le_refl _) (F2.out _)))
          | (go_at_call 45; with_reducible refine calls_later _ (Nat.le_refl _) (SM.out _))
          | fail))
        refine wpQuiet_nil ?_
        rintro _ ⟨z, rfl⟩
        clear m0 m1 m2 m3 m4 m5
        have Z0 := Lib.hid ((z.h.block _ hb0).trans HI.out.b0)
        have Z1 := Lib.hid ((z.h.block _ hb1).trans HI.out.b1)
        have Z2 := Lib.hid ((z.h.block _ hb2).trans HI.out.b2)
        have Z3 := Lib.hid ((z.h.block _ hb3).trans HI.out.b3)
        obtain ⟨a0, a1, a2, _, _, _⟩ := cells3 Z0.out
        obtain ⟨b0, b1, b2, _, _, _⟩ := cells3 Z1.out
        obtain ⟨c0, c1, c2, f0, f1, f2⟩ := cells3 Z2.out
        obtain ⟨d0, d1, d2, g0, g1, g2⟩ := cells3 Z3.out
        go_upto_region 3 with fail
        go_region
        go_wp2
        obtain ⟨e0, e1, e2, e3, e4, e5⟩ := dif_res (w := w) (z := z.w) (i' := i') (k' := k') (j := j) (l := l) (bp := bp) Z2.out Z3.out
        refine bodyPost_ret (v := .tuple #[.agg #[.pointer (some ⟨bp, 0, none⟩), .int .i64 (i' : Int), .int .i64 (j : Int)], .agg #[.pointer (some ⟨bp, 0, none⟩), .int .i64 (k' : Int), .int .i64 (l : Int)]]) (by simp [results, Tryz.results103, go_sem, e0, e1, e2, e3, e4, e5]) rfl ⟨?_, ?_⟩
        · rw [hfin.out.1, hfin.out.2]
        · exact (dif_below (HI.out.bl.trans (z.h.mono HI.out.bl.size))).drew
end
end Go.Proofs.YthgglobfkkcdgaaGreat
namespace Go.Proofs.YthgglobfkkcdgaaGreat
open Go Go.RowKit
structure Fct where
  p : Value → World → Prop
  st : ∀ {v : Value} {w w' : World}, p v w → Below w.heap.size w w' → p v w'
def Fct.eq (v : Value) : Fct := ⟨fun x _ => x = v, fun h _ => h⟩
def Fct.any : Fct := ⟨fun _ _ => True, fun h _ => h⟩
def leaves (P : Program) (K : Value → World → Prop) : Result Next → Prop
  | .ok (.value u) w' => K u w'
  | .ok .skip w' => K undef w'
  | .ok (.enter f args) w' => Calls P f args w' fun e w'' => ∃ v, e = .returned v ∧ K v w''
  | _ => False
def lookF (Fs : List Fct) (a0 a : Act) (w : World) : List (Nat × Option Nat) → Prop
  | [] => True
  | (t, none) :: r => a.eval (.tmp t) = a0.eval (.tmp t) ∧ lookF Fs a0 a w r
  | (t, some j) :: r => (Fs.getD j Fct.any).p (a.eval (.tmp t)) w ∧ lookF Fs a0 a w r
def stepF (P : Program) (Fs : List Fct) (a0 : Act) (W : World) (o : Oper) (ds : List (Nat × Option Nat)) (p : Fct) : Prop :=
  ((∀ j want, o.guard = some (j, want) → ∀ v w, (Fs.getD j Fct.any).p v w → v = .bool want) ∧
    ∀ (a : Act) (w : World), Below W.heap.size W w → lookF Fs a0 a w ds → leaves P (fun v w' => Below w.heap.size w w' ∧ p.p v w') ((execOp a.eval o).run P w)) ∨
  ((∃ j want, o.guard = some (j, want) ∧ ∀ v w, (Fs.getD j Fct.any).p v w → v = .bool (!want)) ∧ ∀ w, p.p undef w)
def stepsF (P : Program) (Fs : List Fct) (a0 : Act) (W : World) : List Oper → List (List (Nat × Option Nat)) → List Fct → Prop
  | o :: l, ds :: dl, p :: pl => stepF P Fs a0 W o ds p ∧ stepsF P Fs a0 W l dl pl
  | [], [], [] => True
  | _, _, _ => False
def finF (Q : Act → World → Prop) (w : World) : List Oper → List Fct → Act → Prop
  | o :: l, p :: pl, a => match o.dst with
    | some d => ∀ v, p.p v w → finF Q w l pl (a.put (some d) v)
    | none => finF Q w l pl a
  | _, _, a => Q a w
def kindF (n : Nat) (l : List Oper) (dl : List (List (Nat × Option Nat))) : Bool :=
  (l.zipIdx.all fun (o, i) => o.after.all (fun e => !Region.binds .any e || decide (e.on < i)) &&
    (match o.guard with | none => true | some (j, _) => o.after.any (fun e => Region.binds .any e && e.on == j) && (match (l[j]?).bind (·.dst) with | none => false | some _ => true)) &&
    (match o.dst with | none => true | some d => decide (d < n) && l.zipIdx.all fun (o', i') => i' == i || o'.dst != some d)) &&
  ((l.zip dl).all fun (o, ds) => ds.all fun (t, s) => match s with
    | none => l.all fun o' => o'.dst != some t
    | some j => (match l[j]? with | some o' => o'.dst == some t | none => false) && o.after.any (fun e => Region.binds .any e && e.on == j)) &&
  l.length == dl.length
section
variable {P : Program} {Q : Exit → Act → World → Prop}
theorem wpAny_inv {ops : Array Oper} (I : Array Bool → Act → World → Prop) (hI : ∀ listed a w, I listed a w → listed.size = ops.size)
    (hstep : ∀ listed a w i, I listed a w → i ∈ Region.ready .any ops listed → wpOp P ops Q i (fun a' w' => I (listed.setIfInBounds i true) a' w') a w)
    (hdone : ∀ listed a w, I listed a w → Region.ready .any ops listed = [] → Q .normal a w) (hfull : ∀ listed, listed.size = ops.size → listed.toList.count false = 0 → Region.ready .any ops listed = []) :
    ∀ (fuel : Nat) (listed : Array Bool) (a : Act) (w : World), listed.toList.count false ≤ fuel → I listed a w → wpAny P .any ops Q fuel listed a w
  | 0, listed, a, w, hc, h => by
    have hr := hfull listed (hI _ _ _ h) (by omega)
    exact ⟨hr, hdone _ _ _ h hr⟩
  | fuel + 1, listed, a, w, hc, h => by
    refine ⟨fun hr => hdone _ _ _ h hr, fun i hi => wpOp_mono (fun a' w' h' => wpAny_inv I hI hstep hdone hfull fuel _ a' w' ?_ h') (hstep _ _ _ i h hi)⟩
    obtain ⟨h0, o, ho, _⟩ := mem_ready.1 hi
    have hlt : i < listed.size := by rw [hI _ _ _ h]; exact (Array.getElem?_eq_some_iff.1 ho).1
    have hf : listed.toList[i]'(by simpa using hlt) = false := by simpa [hlt] using h0
    rw [Array.toList_setIfInBounds, List.count_set (by simpa using hlt)]
    have : 0 < listed.toList.count false := List.count_pos_iff.2 (by rw [← hf]; exact List.getElem_mem _)
    rw [hf]
    show listed.toList.count false - 1 + 0 ≤ fuel
    omega
theorem leaves_wp {o : Oper} {a : Act} {w : World} {K : Value → World → Prop} {K' : Act → World → Prop} (h : leaves P K ((execOp a.eval o).run P w)) (hk : ∀ v w', K v w' → K' (a.put o.dst v) w') : o.wp P a w K' Q := by
  unfold Oper.wp
  generalize (execOp a.eval o).run P w = r at h
  cases r with
  | ok n w' =>
    cases n <;> simp only [leaves] at h <;> simp only [Oper.upon]
    case value u => exact hk _ _ h
    case skip => exact hk _ _ h
    case enter f args => exact Calls.mono h fun e w'' ⟨v, he, hK⟩ => by subst he; exact hk _ _ hK
  | halt x w' => simp only [leaves] at h
theorem stepsF_get {Fs : List Fct} {a0 : Act} {W : World} : ∀ {l : List Oper} {dl : List (List (Nat × Option Nat))} {pl : List Fct}, stepsF P Fs a0 W l dl pl → ∀ (i : Nat) (o : Oper), l[i]? = some o → ∃ ds p, dl[i]? = some ds ∧ pl[i]? = some p ∧ stepF P Fs a0 W o ds p
  | o :: l, ds :: dl, p :: pl, h, 0, o', ho => by
    simp at ho
    subst ho
    exact ⟨ds, p, rfl, rfl, h.1⟩
  | o :: l, ds :: dl, p :: pl, h, i + 1, o', ho => stepsF_get h.2 i o' (by simpa using ho)
  | [], [], [], _, i, o', ho => by simp at ho
  | [], [], _ :: _, h, _, _, _ => h.elim
  | [], _ :: _, _, h, _, _, _ => h.elim
  | _ :: _, [], _, h, _, _, _ => h.elim
  | _ :: _, _ :: _, [], h, _, _, _ => h.elim
theorem finF_of {Q : Act → World → Prop} {w : World} {Fs : List Fct} {a : Act} : ∀ (l : List Oper) (pl : List Fct) (b : Act), finF Q w l pl b → a.defers = b.defers → a.tmps.size = b.tmps.size → l.length = pl.length →
    (∀ t, (∀ o ∈ l, o.dst ≠ some t) → a.tmps[t]? = b.tmps[t]?) → (∀ (i : Nat) (o : Oper) (p : Fct) (d : Nat), l[i]? = some o → pl[i]? = some p → o.dst = some d → d < a.tmps.size ∧ p.p (a.eval (.tmp d)) w) → Q a w
  | [], pl, b, h, hd, hs, hl, ht, hp => by
    obtain rfl : pl = [] := List.eq_nil_of_length_eq_zero (by simpa using hl.symm)
    have : a = b := by
      obtain ⟨at', ad⟩ := a
      obtain ⟨bt, bd⟩ := b
      simp only [Act.mk.injEq]
      exact ⟨Array.ext_getElem? fun t => ht t (by simp), hd⟩
    rw [this]
    exact h
  | o :: l, [], b, h, hd, hs, hl, ht, hp => by simp at hl
  | o :: l, p :: pl, b, h, hd, hs, hl, ht, hp => by
    simp only [List.length_cons, Nat.add_right_cancel_iff] at hl
    unfold finF at h
    cases hdst : o.dst with
    | none =>
      rw [hdst] at h
      refine finF_of (Fs := Fs) l pl b h hd hs hl (fun t e => ht t fun o' ho' => ?_) (fun i o' p' d e1 e2 e3 => hp (i + 1) o' p' d (by simpa using e1) (by simpa using e2) e3)
      rcases List.mem_cons.1 ho' with rfl | ho'
      · rw [hdst]; simp
      · exact e o' ho'
    | some d =>
      rw [hdst] at h
      obtain ⟨hlt, hpd⟩ := hp 0 o p d rfl rfl hdst
      refine finF_of (Fs := Fs) l pl _ (h _ hpd) (by simpa [Act.put] using hd) (by simpa [Act.put] using hs) hl (fun t e => ?_) (fun i o' p' d e1 e2 e3 => hp (i + 1) o' p' d (by simpa using e1) (by simpa using e2) e3)
      by_cases htd : t = d
      · subst htd
        simp only [Act.put, Act.eval]
        rw [Array.getElem?_setIfInBounds]
        simp [hlt, ← hs]
      · simp only [Act.put]
        rw [Array.getElem?_setIfInBounds_ne (Ne.symm htd)]
        refine ht t fun o' ho' => ?_
        rcases List.mem_cons.1 ho' with rfl | ho'
        · rw [hdst]; intro e'; injection e' with e'; exact htd e'.symm
        · exact e o' ho'
theorem lookF_of {Fs : List Fct} {a0 a : Act} {w : World} {l : List Oper} {o : Oper} : ∀ (ds : List (Nat × Option Nat)),
    (∀ t s, (t, s) ∈ ds → match s with | none => a.eval (.tmp t) = a0.eval (.tmp t) | some j => (Fs.getD j Fct.any).p (a.eval (.tmp t)) w) → lookF Fs a0 a w ds
  | [], _ => trivial
  | (t, none) :: r, h => ⟨h t none (by simp), lookF_of (l := l) (o := o) r fun t s e => h t s (by simp [e])⟩
  | (t, some j) :: r, h => ⟨h t (some j) (by simp), lookF_of (l := l) (o := o) r fun t s e => h t s (by simp [e])⟩
structure KindF (n : Nat) (l : List Oper) (dl : List (List (Nat × Option Nat))) : Prop where
  ac : ∀ (i : Nat) (o : Oper), l[i]? = some o → ∀ e ∈ o.after, Region.binds .any e = true → e.on < i
  gd : ∀ (i : Nat) (o : Oper) (j : Nat) (want : Bool), l[i]? = some o → o.guard = some (j, want) → ∃ e ∈ o.after, Region.binds .any e = true ∧ e.on = j ∧ ∃ (o' : Oper) (d : Nat), l[j]? = some o' ∧ o'.dst = some d
  dn : ∀ (i : Nat) (o : Oper) (d : Nat), l[i]? = some o → o.dst = some d → d < n
  un : ∀ (i : Nat) (o : Oper) (i' : Nat) (o' : Oper) (d : Nat), l[i]? = some o → l[i']? = some o' → o.dst = some d → o'.dst = some d → i = i'
  lk : ∀ (i : Nat) (o : Oper) (ds : List (Nat × Option Nat)) (t : Nat) (s : Option Nat), l[i]? = some o → dl[i]? = some ds → (t, s) ∈ ds → match s with
    | none => ∀ o' ∈ l, o'.dst ≠ some t
    | some j => ∃ o' : Oper, l[j]? = some o' ∧ o'.dst = some t ∧ ∃ e ∈ o.after, Region.binds .any e = true ∧ e.on = j
theorem kindF_spec {n : Nat} {l : List Oper} {dl : List (List (Nat × Option Nat))} (h : kindF n l dl = true) : KindF n l dl := by
  unfold kindF at h
  simp only [Bool.and_eq_true, List.all_eq_true, beq_iff_eq] at h
  obtain ⟨⟨h1, h2⟩, h3⟩ := h
  have hz : ∀ i o, l[i]? = some o → (o, i) ∈ l.zipIdx := fun i o e => by
    rw [List.mem_zipIdx_iff_getElem?]; exact e
  refine ⟨fun i o e x hx hb => ?_, fun i o j want e hg => ?_, fun i o d e hd => ?_, fun i o i' o' d e e' hd hd' => ?_, fun i o ds t s e ed hm => ?_⟩
  · have := (h1 _ (hz i o e)).1.1
    have := Array.all_eq_true_iff_forall_mem.1 this x hx
    simpa [hb] using this
  · have := (h1 _ (hz i o e)).1.2
    simp only [hg, Bool.and_eq_true] at this
    obtain ⟨x, hx, hb⟩ := Array.any_eq_true'.1 this.1
    simp only [Bool.and_eq_true, beq_iff_eq] at hb
    have h4 := this.2
    cases hj : (l[j]?).bind (·.dst) with
    | none => rw [hj] at h4; simp at h4
    | some d =>
      obtain ⟨o', ho', hd⟩ := Option.bind_eq_some_iff.1 hj
      exact ⟨x, hx, hb.1, hb.2, o', d, ho', hd⟩
  · have := (h1 _ (hz i o e)).2
    simp only [hd, Bool.and_eq_true, decide_eq_true_eq] at this
    exact this.1
  · have := (h1 _ (hz i o e)).2
    simp only [hd, Bool.and_eq_true, List.all_eq_true] at this
    have := this.2 _ (hz i' o' e')
    simp only [hd', Bool.or_eq_true, beq_iff_eq, bne_self_eq_false, Bool.false_eq_true, or_false] at this
    exact this.symm
  · have hmem : (o, ds) ∈ l.zip dl := by
      refine List.mem_of_getElem? (i := i) ?_
      rw [List.getElem?_zip_eq_some]
      exact ⟨e, ed⟩
    have := h2 _ hmem (t, s) hm
    cases s with
    | none =>
      intro o' ho' hd
      have := List.all_eq_true.1 this o' ho'
      rw [hd] at this
      simp at this
    | some j =>
      simp only [Bool.and_eq_true] at this
      obtain ⟨h5, h6⟩ := this
      obtain ⟨x, hx, hb⟩ := Array.any_eq_true'.1 h6
      simp only [Bool.and_eq_true, beq_iff_eq] at hb
      cases hj : l[j]? with
      | none => rw [hj] at h5; simp at h5
      | some o' =>
        rw [hj] at h5
        exact ⟨o', hj, by simpa using h5, x, hx, hb.1, hb.2⟩
structure InvF (n : Nat) (Fs : List Fct) (l : List Oper) (a0 : Act) (W : World) (listed : Array Bool) (a : Act) (w : World) : Prop where
  ls : listed.size = l.toArray.size
  bl : Below W.heap.size W w
  sz : a.tmps.size = n
  df : a.defers = a0.defers
  ot : ∀ t, (∀ o ∈ l, o.dst ≠ some t) → a.tmps[t]? = a0.tmps[t]?
  fs : ∀ j o d, l[j]? = some o → o.dst = some d → listed.getD j false = true → (Fs.getD j Fct.any).p (a.eval (.tmp d)) w
theorem wp_region_facts {id : Nat} {a : Act} {w : World} {l : List Oper} (n : Nat) (dl : List (List (Nat × Option Nat))) (Fs : List Fct) (hm : P.follows .mixedOrders = true) (hk : kindF n l dl = true) (hn : a.tmps.size = n)
    (h : stepsF P Fs a w.drew l dl Fs) (hf : ∀ w', Below w.drew.heap.size w.drew w' → finF (fun a' w'' => Q .normal a' w'') w' l Fs a) : (Code.region id l.toArray true).wp P Q a w := by
  have K := kindF_spec hk
  have hlen : l.length = Fs.length := by
    clear hf hk K hn
    revert h
    generalize hF : Fs = Gs
    have : ∀ (l : List Oper) (dl : List (List (Nat × Option Nat))) (pl : List Fct), stepsF P Gs a w.drew l dl pl → l.length = pl.length := by
      intro l
      induction l with
      | nil =>
        intro dl pl h
        match dl, pl, h with
        | [], [], _ => rfl
        | [], _ :: _, h => exact h.elim
        | _ :: _, _, h => exact h.elim
      | cons o l ih =>
        intro dl pl h
        match dl, pl, h with
        | ds :: dl, p :: pl, h => simp only [List.length_cons]; rw [ih dl pl h.2]
        | [], _, h => exact h.elim
        | _ :: _, [], h => exact h.elim
    exact fun h => this l dl _ h
  have hstep : ∀ listed a' w' i, InvF n Fs l a w.drew listed a' w' → i ∈ Region.ready .any l.toArray listed → wpOp P l.toArray Q i (fun a'' w'' => InvF n Fs l a w.drew (listed.setIfInBounds i true) a'' w'') a' w' := by
    intro listed a' w' i hI hi
    obtain ⟨h0, o, ho, haf⟩ := mem_ready.1 hi
    have ho' : l[i]? = some o := by simpa using ho
    obtain ⟨ds, p, hds, hp, hst⟩ := stepsF_get h i o ho'
    have hpF : Fs.getD i Fct.any = p := by simp [hp]
    have hnew : ∀ v w'', Below w'.heap.size w' w'' → p.p v w'' → InvF n Fs l a w.drew (listed.setIfInBounds i true) (a'.put o.dst v) w'' := fun v w'' hb hpv => by
      refine ⟨by simpa using hI.ls, hI.bl.trans (hb.mono hI.bl.size), ?_, ?_, fun t ht => ?_, fun j o1 d hj hd hl => ?_⟩
      · rw [← hI.sz]; cases o.dst <;> simp [Act.put]
      · rw [← hI.df]; cases o.dst <;> simp [Act.put]
      · rw [← hI.ot t ht]
        cases hd : o.dst with
        | none => rfl
        | some d =>
          have hne : d ≠ t := fun e => ht o (List.mem_of_getElem? ho') (by rw [hd, e])
          simp [Act.put, Array.getElem?_setIfInBounds_ne hne]
      · by_cases hji : j = i
        · subst hji
          obtain rfl : o1 = o := by rw [ho'] at hj; injection hj with hj; exact hj.symm
          rw [hpF, hd]
          have hlt : d < a'.tmps.size := by rw [hI.sz]; exact K.dn j o1 d hj hd
          have : (a'.put (some d) v).eval (.tmp d) = v := by simp [Act.put, Act.eval, hlt]
          rw [this]
          exact hpv
        · have hl' : listed.getD j false = true := by rwa [getD_set_ne false (Ne.symm hji)] at hl
          have h1 := (Fs.getD j Fct.any).st (hI.fs j o1 d hj hd hl') hb
          have : (a'.put o.dst v).eval (.tmp d) = a'.eval (.tmp d) := by
            cases hd' : o.dst with
            | none => rfl
            | some d' =>
              refine Act.eval_put fun x hx e => ?_
              injection hx with hx
              injection e with e
              exact hji (K.un j o1 i o d hj ho' hd (by rw [hd', hx, e]))
          rw [this]
          exact h1
    have hlisted : ∀ j o1 d, l[j]? = some o1 → o1.dst = some d → (∃ e ∈ o.after, Region.binds .any e = true ∧ e.on = j) → (Fs.getD j Fct.any).p (a'.eval (.tmp d)) w' := fun j o1 d hj hd ⟨e, he, hb, hej⟩ =>
      hI.fs j o1 d hj hd (by rw [← hej]; exact haf e he hb)
    unfold wpOp
    simp only [ho]
    have hguard : ∀ j want b, o.guard = some (j, want) → (∀ v w, (Fs.getD j Fct.any).p v w → v = .bool b) → yielded l.toArray a'.tmps j = some b := fun j want b hg hb => by
      obtain ⟨e, he, hbd, hej, o1, d, hj, hd⟩ := K.gd i o j want ho' hg
      have h1 := hb _ _ (hlisted j o1 d hj hd ⟨e, he, hbd, hej⟩)
      have hlt : d < a'.tmps.size := by rw [hI.sz]; exact K.dn j o1 d hj hd
      unfold yielded
      have h2 : a'.tmps[d]? = some (.bool b) := by
        simp only [Act.eval, Array.getD_eq_getD_getElem?, Array.getElem?_eq_getElem hlt, Option.getD_some] at h1
        rw [Array.getElem?_eq_getElem hlt, h1]
      simp [hj, hd, h2]
    rcases hst with ⟨hg, hgo⟩ | ⟨⟨j, want, hg, hgb⟩, hundef⟩
    · have hw : Region.wanted o (yielded l.toArray a'.tmps) = true := by
        unfold Region.wanted
        cases hgd : o.guard with
        | none => rfl
        | some gw =>
          obtain ⟨j, want⟩ := gw
          simp only [hguard j want want hgd (hg j want hgd), beq_self_eq_true]
      simp only [hw, if_true]
      refine .inl (leaves_wp (hgo a' w' hI.bl (lookF_of (l := l) (o := o) ds fun t s hts => ?_)) fun v w'' ⟨hb, hpv⟩ => hnew v w'' hb hpv)
      have h3 := K.lk i o ds t s ho' hds hts
      cases s with
      | none =>
        have := hI.ot t h3
        simp only [Act.eval, Array.getD_eq_getD_getElem?, this]
      | some j =>
        obtain ⟨o1, hj, hd, he⟩ := h3
        exact hlisted j o1 t hj hd he
    · have hw : Region.wanted o (yielded l.toArray a'.tmps) = false := by
        unfold Region.wanted
        rw [hg]
        simp only [hguard j want (!want) hg hgb]
        cases want <;> rfl
      simp only [hw, Bool.false_eq_true, if_false]
      exact hnew undef w' (Below.refl _ _) (hundef w')
  refine wp_region_any hm (wpAny_inv (InvF n Fs l a w.drew) (fun _ _ _ hI => hI.ls) hstep (fun listed a' w' hI hr => ?_) (fun listed hs hc => ?_) _ _ a w.drew ?_ ⟨by simp, Below.refl _ _, hn, rfl, fun _ _ => rfl, fun j o d hj hd hl => ?_⟩)
  · have hall : ∀ j o, l[j]? = some o → listed.getD j false = true := by
      intro j
      induction j using Nat.strongRecOn with
      | _ j ih =>
        intro o hj
        cases hl : listed.getD j false with
        | true => rfl
        | false =>
          have : j ∈ Region.ready .any l.toArray listed := by
            refine mem_ready.2 ⟨?_, o, by simpa using hj, fun e he hb => ?_⟩
            · have hlt : j < listed.size := by rw [hI.ls]; simpa using (List.getElem?_eq_some_iff.1 hj).1
              simpa [hlt] using hl
            · have h1 := K.ac j o hj e he hb
              have h2 : e.on < l.length := Nat.lt_trans h1 (List.getElem?_eq_some_iff.1 hj).1
              exact ih e.on h1 _ (List.getElem?_eq_getElem h2)
          rw [hr] at this
          cases this
    refine finF_of (Fs := Fs) (Q := fun a' w'' => Q .normal a' w'') l Fs a (hf w' hI.bl) hI.df (by rw [hI.sz, hn]) hlen hI.ot fun i o p d e1 e2 e3 => ⟨by rw [hI.sz]; exact K.dn i o d e1 e3, ?_⟩
    have := hI.fs i o d e1 e3 (hall i o e1)
    simpa [e2] using this
  · refine List.eq_nil_iff_forall_not_mem.2 fun i hi => ?_
    obtain ⟨h0, o, ho, _⟩ := mem_ready.1 hi
    have hlt : i < listed.size := by rw [hs]; exact (Array.getElem?_eq_some_iff.1 ho).1
    have hf' : listed.toList[i]'(by simpa using hlt) = false := by simpa [hlt] using h0
    have : 0 < listed.toList.count false := List.count_pos_iff.2 (by rw [← hf']; exact List.getElem_mem _)
    omega
  · simp
  · exfalso
    rw [Array.getD_eq_getD_getElem?, Array.getElem?_replicate] at hl
    by_cases hj' : j < l.toArray.size
    · rw [if_pos hj'] at hl; cases hl
    · rw [if_neg hj'] at hl; cases hl
end
end Go.Proofs.YthgglobfkkcdgaaGreat
namespace Go.Proofs.YthgglobfkkcdgaaGreat
open Go Go.RowKit
def waits (o : Oper) (j : Nat) : Bool := o.after.any fun e => Region.binds .any e && e.on == j
theorem waits_spec {o : Oper} {j : Nat} (h : waits o j = true) : ∃ e ∈ o.after, Region.binds .any e = true ∧ e.on = j := by
  obtain ⟨e, he, hb⟩ := Array.any_eq_true'.1 h
  simp only [Bool.and_eq_true, beq_iff_eq] at hb
  exact ⟨e, he, hb.1, hb.2⟩
section
variable {P : Program} {Q : Exit → Act → World → Prop}
theorem getD_put {listed : Array Bool} {i j : Nat} (h : i < listed.size) : (listed.setIfInBounds i true).getD j false = true ↔ (j = i ∨ listed.getD j false = true) := by
  by_cases e : j = i
  · subst e; simp [h]
  · rw [getD_set_ne false (Ne.symm e)]; simp [e]
structure FinS (Q : Act → World → Prop) (w : World) (l : List Oper) (pl : List Fct) (a : Act) : Prop where
  go : finF Q w l pl a
end
theorem FinS.some {Q : Act → World → Prop} {w : World} {o : Oper} {l : List Oper} {p : Fct} {pl : List Fct} {a : Act} {d : Nat} (hd : o.dst = some d) (h : ∀ v, p.p v w → FinS Q w l pl (a.put (some d) v)) : FinS Q w (o :: l) (p :: pl) a :=
  ⟨by unfold finF; rw [hd]; exact fun v hv => (h v hv).go⟩
theorem FinS.nil {Q : Act → World → Prop} {w : World} {a : Act} (h : Q a w) : FinS Q w [] [] a :=
  ⟨by unfold finF; exact h⟩
end Go.Proofs.YthgglobfkkcdgaaGreat
namespace Go.Proofs.YthgglobfkkcdgaaGreat
open Go Go.RowKit
def cntT (b : Array Bool) (ss : List Nat) : Nat := ss.countP fun i => b.getD i false
theorem cntT_set {b : Array Bool} {i : Nat} (hi : i < b.size) (h0 : b.getD i false = false) : ∀ ss : List Nat, ss.Nodup → cntT (b.setIfInBounds i true) ss = cntT b ss + (if i ∈ ss then 1 else 0)
  | [], _ => by simp [cntT]
  | s :: ss, h => by
    rw [List.nodup_cons] at h
    have ih := cntT_set hi h0 ss h.2
    unfold cntT at ih ⊢
    rw [List.countP_cons, List.countP_cons, ih]
    by_cases e : i = s
    · subst e
      rw [if_neg h.1, if_pos (show i ∈ i :: ss by simp), if_pos ((getD_put hi).2 (.inl rfl)), h0, if_neg (by simp)]
    · rw [getD_set_ne false e]
      by_cases hm : i ∈ ss
      · rw [if_pos hm, if_pos (show i ∈ s :: ss by simp [hm])]; omega
      · rw [if_neg hm, if_neg (show ¬ i ∈ s :: ss by simp [hm, e])]; omega
def stepS (P : Program) (Fs : List Fct) (a0 : Act) (W : Nat → World) (st : Bool) (o : Oper) (ds : List (Nat × Option Nat)) (ks : List Nat) (x : Value) : Prop :=
  o.guard = none ∧ ∀ k ∈ ks, ∀ (a : Act), lookF Fs a0 a (W k) ds → leaves P (fun v w' => w' = W (if st then k + 1 else k) ∧ v = x) ((execOp a.eval o).run P (W k))
def stepsS (P : Program) (Fs : List Fct) (a0 : Act) (W : Nat → World) (ss : List Nat) : Nat → List Oper → List (List (Nat × Option Nat)) → List (List Nat) → List Value → Prop
  | i, o :: l, ds :: dl, ks :: kl, x :: xs => stepS P Fs a0 W (decide (i ∈ ss)) o ds ks x ∧ stepsS P Fs a0 W ss (i + 1) l dl kl xs
  | _, [], [], [], [] => True
  | _, _, _, _, _ => False
theorem stepsS_get {P : Program} {Fs : List Fct} {a0 : Act} {W : Nat → World} {ss : List Nat} : ∀ {l : List Oper} {dl : List (List (Nat × Option Nat))} {kl : List (List Nat)} {xs : List Value} (b : Nat), stepsS P Fs a0 W ss b l dl kl xs → ∀ (i : Nat) (o : Oper), l[i]? = some o → ∃ ds ks x, dl[i]? = some ds ∧ kl[i]? = some ks ∧ xs[i]? = some x ∧ stepS P Fs a0 W (decide (b + i ∈ ss)) o ds ks x
  | o :: l, ds :: dl, ks :: kl, x :: xs, b, h, 0, o', ho => by
    simp at ho
    subst ho
    exact ⟨ds, ks, x, rfl, rfl, rfl, h.1⟩
  | o :: l, ds :: dl, ks :: kl, x :: xs, b, h, i + 1, o', ho => by
    have := stepsS_get (b + 1) h.2 i o' (by simpa using ho)
    rw [show b + 1 + i = b + (i + 1) by omega] at this
    exact this
  | [], _, _, _, _, _, i, o', ho => by simp at ho
  | _ :: _, [], _, _, _, h, _, _, _ => by simp [stepsS] at h
  | _ :: _, _ :: _, [], _, _, h, _, _, _ => by simp [stepsS] at h
  | _ :: _, _ :: _, _ :: _, [], _, h, _, _, _ => by simp [stepsS] at h
theorem stepsS_len {P : Program} {Fs : List Fct} {a0 : Act} {W : Nat → World} {ss : List Nat} : ∀ {l : List Oper} {dl : List (List (Nat × Option Nat))} {kl : List (List Nat)} {xs : List Value} (b : Nat), stepsS P Fs a0 W ss b l dl kl xs → l.length = xs.length
  | o :: l, ds :: dl, ks :: kl, x :: xs, b, h => by rw [List.length_cons, List.length_cons, stepsS_len (b + 1) h.2]
  | [], [], [], [], _, _ => rfl
  | [], [], [], _ :: _, _, h => by simp [stepsS] at h
  | [], [], _ :: _, _, _, h => by simp [stepsS] at h
  | [], _ :: _, _, _, _, h => by simp [stepsS] at h
  | _ :: _, [], _, _, _, h => by simp [stepsS] at h
  | _ :: _, _ :: _, [], _, _, h => by simp [stepsS] at h
  | _ :: _, _ :: _, _ :: _, [], _, h => by simp [stepsS] at h
def waitsAt (l : List Oper) (s i : Nat) : Bool := match l[s]? with | some o => waits o i | none => false
def stgB (l : List Oper) (ss : List Nat) (kl : List (List Nat)) : Bool :=
  decide ss.Nodup && (ss.all (fun s => decide (s < l.length)) &&
  (l.zipIdx.zip kl).all fun x => (List.range (ss.length + 1)).all fun k => x.2.contains k || (decide (k < ss.countP fun s => waits x.1.1 s) || decide ((ss.countP fun s => decide (s ≠ x.1.2) && !waitsAt l s x.1.2) < k)))
structure InvS (vals : List Value) (n : Nat) (l : List Oper) (a0 : Act) (ss : List Nat) (W : Nat → World) (listed : Array Bool) (a : Act) (w : World) : Prop where
  ls : listed.size = l.toArray.size
  cl : ∀ (j : Nat) (o : Oper), l[j]? = some o → listed.getD j false = true → ∀ e ∈ o.after, Region.binds .any e = true → listed.getD e.on false = true
  sz : a.tmps.size = n
  df : a.defers = a0.defers
  ot : ∀ t, (∀ o ∈ l, o.dst ≠ some t) → a.tmps[t]? = a0.tmps[t]?
  fs : ∀ (j : Nat) (o : Oper) (d : Nat), l[j]? = some o → o.dst = some d → listed.getD j false = true → a.eval (.tmp d) = vals.getD j undef
  wd : w = W (cntT listed ss)
section
variable {P : Program} {Q : Exit → Act → World → Prop}
theorem wp_region_stages {id : Nat} {a : Act} {w : World} {l : List Oper} (n : Nat) (dl : List (List (Nat × Option Nat))) (kl : List (List Nat)) (vals : List Value) (ss : List Nat) (W : Nat → World) (hm : P.follows .mixedOrders = true) (hk : kindF n l dl = true) (hg : stgB l ss kl = true) (hn : a.tmps.size = n)
    (hw : w.drew = W 0) (h : stepsS P (vals.map Fct.eq) a W ss 0 l dl kl vals) (hf : finF (fun a' w'' => Q .normal a' w'') (W ss.length) l (vals.map Fct.eq) a) : (Code.region id l.toArray true).wp P Q a w := by
  have K := kindF_spec hk
  have hlen := stepsS_len 0 h
  unfold stgB at hg
  rw [Bool.and_eq_true, Bool.and_eq_true, decide_eq_true_eq] at hg
  obtain ⟨hnd, hsl, hst⟩ := hg
  have hFd : ∀ (j : Nat) (v : Value) (w : World), ((vals.map Fct.eq).getD j Fct.any).p v w ↔ (j < vals.length → v = vals.getD j undef) := fun j v w => by
    rw [List.getD_eq_getElem?_getD, List.getD_eq_getElem?_getD, List.getElem?_map]
    by_cases hj : j < vals.length
    · rw [List.getElem?_eq_getElem hj]; simp [Fct.eq, hj]
    · rw [List.getElem?_eq_none (by omega)]; simp [Fct.any, hj]
  have hstep : ∀ listed a' w' i, InvS vals n l a ss W listed a' w' → i ∈ Region.ready .any l.toArray listed → wpOp P l.toArray Q i (fun a'' w'' => InvS vals n l a ss W (listed.setIfInBounds i true) a'' w'') a' w' := by
    intro listed a' w' i hI hi
    obtain ⟨h0, o, ho, haf⟩ := mem_ready.1 hi
    have ho' : l[i]? = some o := by simpa using ho
    have hil := (List.getElem?_eq_some_iff.1 ho').1
    have hlt0 : i < listed.size := by rw [hI.ls]; simpa using hil
    have hi0 : listed.getD i false = false := by simpa [hlt0] using h0
    obtain ⟨ds, ks, x, hds, hks, hx, hgn, hgo⟩ := stepsS_get 0 h i o ho'
    rw [Nat.zero_add] at hgo
    have hxv : vals.getD i undef = x := by simp [hx]
    have hstage : cntT listed ss ∈ ks := by
      have hmem : ((o, i), ks) ∈ l.zipIdx.zip kl := by
        refine List.mem_of_getElem? (i := i) ?_
        rw [List.getElem?_zip_eq_some]
        exact ⟨by rw [List.getElem?_zipIdx, ho']; simp, hks⟩
      have h1 := List.all_eq_true.1 hst _ hmem
      have hle : cntT listed ss ≤ ss.length := List.countP_le_length
      have h2 := List.all_eq_true.1 h1 (cntT listed ss) (List.mem_range.2 (by omega))
      simp only [Bool.or_eq_true, decide_eq_true_eq] at h2
      rcases h2 with h2 | h2 | h2
      · exact List.contains_iff_mem.1 h2
      · exfalso
        have : (ss.countP fun s => waits o s) ≤ cntT listed ss := List.countP_mono_left fun s _ hs => by
          obtain ⟨e, he, hb, hon⟩ := waits_spec hs
          rw [← hon]; exact haf e he hb
        omega
      · exfalso
        have : cntT listed ss ≤ ss.countP fun s => decide (s ≠ i) && !waitsAt l s i := List.countP_mono_left fun s hs hl => by
          have hne : s ≠ i := fun e => by rw [e, hi0] at hl; cases hl
          rw [Bool.and_eq_true, decide_eq_true_eq, Bool.not_eq_true']
          refine ⟨hne, ?_⟩
          have hsl' : s < l.length := of_decide_eq_true (List.all_eq_true.1 hsl s hs)
          unfold waitsAt
          rw [List.getElem?_eq_getElem hsl']
          show waits l[s] i = false
          cases hw : waits l[s] i with
          | false => rfl
          | true =>
            obtain ⟨e, he, hb, hon⟩ := waits_spec hw
            have := hI.cl s _ (List.getElem?_eq_getElem hsl') hl e he hb
            rw [hon, hi0] at this; cases this
        omega
    have hlisted : ∀ j o1 d, l[j]? = some o1 → o1.dst = some d → (∃ e ∈ o.after, Region.binds .any e = true ∧ e.on = j) → a'.eval (.tmp d) = vals.getD j undef := fun j o1 d hj hd ⟨e, he, hb, hej⟩ =>
      hI.fs j o1 d hj hd (by rw [← hej]; exact haf e he hb)
    unfold wpOp
    simp only [ho]
    have hwd : Region.wanted o (yielded l.toArray a'.tmps) = true := by
      unfold Region.wanted
      rw [hgn]
    simp only [hwd, if_true]
    rw [hI.wd]
    refine .inl (leaves_wp (hgo _ hstage a' (lookF_of (l := l) (o := o) ds fun t s hts => ?_)) fun v w'' ⟨hw'', hv⟩ => ?_)
    · have h3 := K.lk i o ds t s ho' hds hts
      cases s with
      | none =>
        have := hI.ot t h3
        simp only [Act.eval, Array.getD_eq_getD_getElem?, this]
      | some j =>
        obtain ⟨o1, hj, hd, he⟩ := h3
        exact (hFd j _ _).2 fun _ => hlisted j o1 t hj hd he
    · subst hw'' hv
      refine ⟨by simpa using hI.ls, fun j o1 hj hl e he hbd => ?_, ?_, ?_, fun t ht => ?_, fun j o1 d hj hd hl => ?_, ?_⟩
      · rw [getD_put hlt0] at hl ⊢
        rcases hl with rfl | hl
        · obtain rfl : o1 = o := by rw [ho'] at hj; injection hj with hj; exact hj.symm
          exact .inr (haf e he hbd)
        · exact .inr (hI.cl j o1 hj hl e he hbd)
      · rw [← hI.sz]; cases o.dst <;> simp [Act.put]
      · rw [← hI.df]; cases o.dst <;> simp [Act.put]
      · rw [← hI.ot t ht]
        cases hd : o.dst with
        | none => rfl
        | some d =>
          have hne : d ≠ t := fun e => ht o (List.mem_of_getElem? ho') (by rw [hd, e])
          simp [Act.put, Array.getElem?_setIfInBounds_ne hne]
      · by_cases hji : j = i
        · subst hji
          obtain rfl : o1 = o := by rw [ho'] at hj; injection hj with hj; exact hj.symm
          rw [hd, hxv]
          have hlt : d < a'.tmps.size := by rw [hI.sz]; exact K.dn j o1 d hj hd
          simp [Act.put, Act.eval, hlt]
        · have hl' : listed.getD j false = true := by rwa [getD_set_ne false (Ne.symm hji)] at hl
          rw [← hI.fs j o1 d hj hd hl']
          cases hd' : o.dst with
          | none => rfl
          | some d' =>
            refine Act.eval_put fun x hx e => ?_
            injection hx with hx
            injection e with e
            exact hji (K.un j o1 i o d hj ho' hd (by rw [hd', hx, e]))
      · rw [cntT_set hlt0 hi0 ss hnd]
        by_cases hm : i ∈ ss
        · rw [if_pos hm, decide_eq_true hm, if_pos rfl]
        · rw [if_neg hm, decide_eq_false hm, if_neg (by simp)]; rfl
  refine wp_region_any hm (wpAny_inv (InvS vals n l a ss W) (fun _ _ _ hI => hI.ls) hstep (fun listed a' w' hI hr => ?_) (fun listed hs hc => ?_) _ _ a w.drew ?_ ⟨by simp, fun j o hj hl => ?_, hn, rfl, fun _ _ => rfl, fun j o d hj hd hl => ?_, ?_⟩)
  · have hall : ∀ j o, l[j]? = some o → listed.getD j false = true := by
      intro j
      induction j using Nat.strongRecOn with
      | _ j ih =>
        intro o hj
        cases hl : listed.getD j false with
        | true => rfl
        | false =>
          have : j ∈ Region.ready .any l.toArray listed := by
            refine mem_ready.2 ⟨?_, o, by simpa using hj, fun e he hb => ?_⟩
            · have hlt : j < listed.size := by rw [hI.ls]; simpa using (List.getElem?_eq_some_iff.1 hj).1
              simpa [hlt] using hl
            · have h1 := K.ac j o hj e he hb
              have h2 : e.on < l.length := Nat.lt_trans h1 (List.getElem?_eq_some_iff.1 hj).1
              exact ih e.on h1 _ (List.getElem?_eq_getElem h2)
          rw [hr] at this
          cases this
    have hcnt : cntT listed ss = ss.length := List.countP_eq_length.2 fun s hs => by
      have hsl' : s < l.length := of_decide_eq_true (List.all_eq_true.1 hsl s hs)
      exact hall s _ (List.getElem?_eq_getElem hsl')
    have hwl := hI.wd
    rw [hcnt] at hwl
    subst hwl
    refine finF_of (Fs := vals.map Fct.eq) (Q := fun a' w'' => Q .normal a' w'') l (vals.map Fct.eq) a hf hI.df (by rw [hI.sz, hn]) (by rw [List.length_map]; exact hlen) hI.ot fun i o p d e1 e2 e3 => ⟨by rw [hI.sz]; exact K.dn i o d e1 e3, ?_⟩
    have h1 := hI.fs i o d e1 e3 (hall i o e1)
    have h2 := (hFd i (a'.eval (.tmp d)) (W ss.length)).2 fun _ => h1
    simpa [e2] using h2
  · refine List.eq_nil_iff_forall_not_mem.2 fun i hi => ?_
    obtain ⟨h0, o, ho, _⟩ := mem_ready.1 hi
    have hlt : i < listed.size := by rw [hs]; exact (Array.getElem?_eq_some_iff.1 ho).1
    have hf' : listed.toList[i]'(by simpa using hlt) = false := by simpa [hlt] using h0
    have : 0 < listed.toList.count false := List.count_pos_iff.2 (by rw [← hf']; exact List.getElem_mem _)
    omega
  · simp
  · exfalso
    rw [Array.getD_eq_getD_getElem?, Array.getElem?_replicate] at hl
    by_cases hj' : j < l.toArray.size
    · rw [if_pos hj'] at hl; cases hl
    · rw [if_neg hj'] at hl; cases hl
  · exfalso
    rw [Array.getD_eq_getD_getElem?, Array.getElem?_replicate] at hl
    by_cases hj' : j < l.toArray.size
    · rw [if_pos hj'] at hl; cases hl
    · rw [if_neg hj'] at hl; cases hl
  · rw [hw]
    have : cntT (Array.replicate l.toArray.size false) ss = 0 := by
      unfold cntT
      rw [List.countP_eq_zero]
      intro s _
      rw [Array.getD_eq_getD_getElem?, Array.getElem?_replicate]
      split <;> simp
    rw [this]
end
end Go.Proofs.YthgglobfkkcdgaaGreat
namespace Go.Proofs.YthgglobfkkcdgaaGreat
open Go Go.RowKit
structure BoxN where
  j : Nat
  d : Nat
  k : Nat
  z : Array Value
  x : Array Value
  ty : TypeId
inductive KdB
  | val (v : Value)
  | box (r : BoxN)
  | put (r : BoxN)
def boxF (n0 : Nat) (r : BoxN) : Fct := ⟨fun v w => ∃ b, v = .pointer (some ⟨b, 0, none⟩) ∧ n0 ≤ b ∧ b < w.heap.size ∧ w.heap[b]? = some (.cells r.x r.ty), fun ⟨b, hv, h1, h2, h3⟩ hb => ⟨b, hv, h1, Nat.lt_of_lt_of_le h2 hb.size, (hb.block b h2).trans h3⟩⟩
def KdB.f (n0 : Nat) : KdB → Fct
  | .val v => Fct.eq v
  | .box r => boxF n0 r
  | .put _ => Fct.any
def KdB.v : KdB → Fct
  | .val v => Fct.eq v
  | _ => Fct.any
def stepB (P : Program) (Fs : List Fct) (a0 : Act) (W : World) (o : Oper) (ds : List (Nat × Option Nat)) : KdB → Prop
  | .val x => o.guard = none ∧ ∀ (a : Act) (w : World), Below W.heap.size W w → lookF Fs a0 a w ds → leaves P (fun v w' => v = x ∧ Below w.heap.size w w') ((execOp a.eval o).run P w)
  | .box r => o.guard = none ∧ ∀ (a : Act) (w : World), (execOp a.eval o).run P w = .ok (.value (.pointer (some ⟨w.heap.size, 0, none⟩))) (w.alloc (.cells r.z r.ty))
  | .put r => o.guard = none ∧ ∀ (a : Act) (w : World) (b : Nat), a.eval (.tmp r.d) = .pointer (some ⟨b, 0, none⟩) → w.heap[b]? = some (.cells r.z r.ty) → lookF Fs a0 a w ds →
      leaves P (fun _ w' => w'.heap[b]? = some (.cells r.x r.ty) ∧ (∀ g, g ≠ b → w'.heap[g]? = w.heap[g]?) ∧ w'.os = w.os ∧ w'.tape = w.tape ∧ w'.output = w.output ∧ w'.heap.size = w.heap.size) ((execOp a.eval o).run P w)
def stepsB (P : Program) (Fs : List Fct) (a0 : Act) (W : World) : List Oper → List (List (Nat × Option Nat)) → List KdB → Prop
  | o :: l, ds :: dl, p :: pl => stepB P Fs a0 W o ds p ∧ stepsB P Fs a0 W l dl pl
  | [], [], [] => True
  | _, _, _ => False
theorem stepsB_get {P : Program} {Fs : List Fct} {a0 : Act} {W : World} : ∀ {l : List Oper} {dl : List (List (Nat × Option Nat))} {pl : List KdB}, stepsB P Fs a0 W l dl pl → ∀ (i : Nat) (o : Oper), l[i]? = some o → ∃ ds p, dl[i]? = some ds ∧ pl[i]? = some p ∧ stepB P Fs a0 W o ds p
  | o :: l, ds :: dl, p :: pl, h, 0, o', ho => by
    simp at ho
    subst ho
    exact ⟨ds, p, rfl, rfl, h.1⟩
  | o :: l, ds :: dl, p :: pl, h, i + 1, o', ho => stepsB_get h.2 i o' (by simpa using ho)
  | [], [], [], _, i, o', ho => by simp at ho
  | [], [], _ :: _, h, _, _, _ => h.elim
  | [], _ :: _, _, h, _, _, _ => h.elim
  | _ :: _, [], _, h, _, _, _ => h.elim
  | _ :: _, _ :: _, [], h, _, _, _ => h.elim
theorem stepsB_len {P : Program} {Fs : List Fct} {a0 : Act} {W : World} : ∀ {l : List Oper} {dl : List (List (Nat × Option Nat))} {pl : List KdB}, stepsB P Fs a0 W l dl pl → l.length = pl.length
  | o :: l, ds :: dl, p :: pl, h => by rw [List.length_cons, List.length_cons, stepsB_len h.2]
  | [], [], [], _ => rfl
  | [], [], _ :: _, h => h.elim
  | [], _ :: _, _, h => h.elim
  | _ :: _, [], _, h => h.elim
  | _ :: _, _ :: _, [], h => h.elim
structure InvB2 (Fs : List Fct) (n : Nat) (l : List Oper) (rs : List BoxN) (a0 : Act) (W : World) (listed : Array Bool) (a : Act) (w : World) : Prop where
  ls : listed.size = l.toArray.size
  cl : ∀ (j : Nat) (o : Oper), l[j]? = some o → listed.getD j false = true → ∀ e ∈ o.after, Region.binds .any e = true → listed.getD e.on false = true
  bl : Below W.heap.size W w
  sz : a.tmps.size = n
  df : a.defers = a0.defers
  ot : ∀ t, (∀ o ∈ l, o.dst ≠ some t) → a.tmps[t]? = a0.tmps[t]?
  fs : ∀ (j : Nat) (o : Oper) (d : Nat), l[j]? = some o → o.dst = some d → listed.getD j false = true → (Fs.getD j Fct.any).p (a.eval (.tmp d)) w
  bx : ∀ r ∈ rs, listed.getD r.j false = true → ∃ b, a.eval (.tmp r.d) = .pointer (some ⟨b, 0, none⟩) ∧ W.heap.size ≤ b ∧ b < w.heap.size ∧ w.heap[b]? = some (.cells (if listed.getD r.k false then r.x else r.z) r.ty)
  dj : ∀ r ∈ rs, ∀ r' ∈ rs, r.j ≠ r'.j → listed.getD r.j false = true → listed.getD r'.j false = true → ∀ b, a.eval (.tmp r.d) = .pointer (some ⟨b, 0, none⟩) → a.eval (.tmp r'.d) ≠ .pointer (some ⟨b, 0, none⟩)
structure BoxOk (l : List Oper) (pl : List KdB) (rs : List BoxN) : Prop where
  md : ∀ r ∈ rs, ∃ o, l[r.j]? = some o ∧ o.dst = some r.d ∧ pl[r.j]? = some (.box r)
  pt : ∀ r ∈ rs, ∃ o, l[r.k]? = some o ∧ o.dst = none ∧ pl[r.k]? = some (.put r) ∧ waits o r.j = true
  un : ∀ r ∈ rs, ∀ r' ∈ rs, r.j = r'.j ∨ r.k = r'.k → r = r'
  al : ∀ (i : Nat) (r : BoxN), pl[i]? = some (.box r) → r ∈ rs ∧ r.j = i
  ap : ∀ (i : Nat) (r : BoxN), pl[i]? = some (.put r) → r ∈ rs ∧ r.k = i
section
variable {P : Program} {Q : Exit → Act → World → Prop}
theorem wp_region_boxes {id : Nat} {a : Act} {w : World} {l : List Oper} (n : Nat) (dl : List (List (Nat × Option Nat))) (pl : List KdB) (rs : List BoxN) (hm : P.follows .mixedOrders = true) (hk : kindF n l dl = true) (hg : BoxOk l pl rs) (hn : a.tmps.size = n)
    (h : stepsB P (pl.map KdB.v) a w.drew l dl pl) (hf : ∀ w', Below w.drew.heap.size w.drew w' → finF (fun a' w'' => (∀ r ∈ rs, ∀ r' ∈ rs, r.j ≠ r'.j → ∀ b, a'.eval (.tmp r.d) = .pointer (some ⟨b, 0, none⟩) → a'.eval (.tmp r'.d) ≠ .pointer (some ⟨b, 0, none⟩)) → Q .normal a' w'') w' l (pl.map (KdB.f w.drew.heap.size)) a) : (Code.region id l.toArray true).wp P Q a w := by
  have K := kindF_spec hk
  have hlen := stepsB_len h
  have hget : ∀ (j : Nat) (k : KdB), pl[j]? = some k → (pl.map KdB.v).getD j Fct.any = k.v := fun j k hj => by
    rw [List.getD_eq_getElem?_getD, List.getElem?_map, hj]; rfl
  have hstep : ∀ listed a' w' i, InvB2 (pl.map KdB.v) n l rs a w.drew listed a' w' → i ∈ Region.ready .any l.toArray listed → wpOp P l.toArray Q i (fun a'' w'' => InvB2 (pl.map KdB.v) n l rs a w.drew (listed.setIfInBounds i true) a'' w'') a' w' := by
    intro listed a' w' i hI hi
    obtain ⟨h0, o, ho, haf⟩ := mem_ready.1 hi
    have ho' : l[i]? = some o := by simpa using ho
    have hil := (List.getElem?_eq_some_iff.1 ho').1
    have hlt0 : i < listed.size := by rw [hI.ls]; simpa using hil
    have hi0 : listed.getD i false = false := by simpa [hlt0] using h0
    obtain ⟨ds, p, hds, hp, hst⟩ := stepsB_get h i o ho'
    have hlook : lookF (pl.map KdB.v) a a' w' ds := lookF_of (l := l) (o := o) ds fun t s hts => by
      have h3 := K.lk i o ds t s ho' hds hts
      cases s with
      | none =>
        have := hI.ot t h3
        simp only [Act.eval, Array.getD_eq_getD_getElem?, this]
      | some j =>
        obtain ⟨o1, hj, hd, e, he, hb, hej⟩ := h3
        exact hI.fs j o1 t hj hd (by rw [← hej]; exact haf e he hb)
    have hput : ∀ (v : Value) (d : Nat), o.dst ≠ some d → (a'.put o.dst v).eval (.tmp d) = a'.eval (.tmp d) := fun v d hne => by
      cases hd' : o.dst with
      | none => rfl
      | some d' =>
        refine Act.eval_put fun x hx e => ?_
        injection hx with hx
        injection e with e
        exact hne (by rw [hd', hx, e])
    have hcommon : ∀ (v : Value) (w'' : World), (∀ (j : Nat) (o1 : Oper) (d : Nat), l[j]? = some o1 → o1.dst = some d → (j = i ∨ listed.getD j false = true) → ((pl.map KdB.v).getD j Fct.any).p ((a'.put o.dst v).eval (.tmp d)) w'') → Below w.drew.heap.size w.drew w'' →
        (∀ r ∈ rs, (r.j = i ∨ listed.getD r.j false = true) → ∃ b, (a'.put o.dst v).eval (.tmp r.d) = .pointer (some ⟨b, 0, none⟩) ∧ w.drew.heap.size ≤ b ∧ b < w''.heap.size ∧ w''.heap[b]? = some (.cells (if (listed.setIfInBounds i true).getD r.k false then r.x else r.z) r.ty)) →
        (∀ r ∈ rs, ∀ r' ∈ rs, r.j ≠ r'.j → (r.j = i ∨ listed.getD r.j false = true) → (r'.j = i ∨ listed.getD r'.j false = true) → ∀ b, (a'.put o.dst v).eval (.tmp r.d) = .pointer (some ⟨b, 0, none⟩) → (a'.put o.dst v).eval (.tmp r'.d) ≠ .pointer (some ⟨b, 0, none⟩)) →
        InvB2 (pl.map KdB.v) n l rs a w.drew (listed.setIfInBounds i true) (a'.put o.dst v) w'' := fun v w'' h1 h2 h3 h4 => by
      refine ⟨by simpa using hI.ls, fun j o1 hj hl e he hbd => ?_, h2, ?_, ?_, fun t ht => ?_, fun j o1 d hj hd hl => h1 j o1 d hj hd ((getD_put hlt0).1 hl), fun r hr hl => h3 r hr ((getD_put hlt0).1 hl), fun r hr r' hr' hne hl hl' => h4 r hr r' hr' hne ((getD_put hlt0).1 hl) ((getD_put hlt0).1 hl')⟩
      · rw [getD_put hlt0] at hl ⊢
        rcases hl with rfl | hl
        · obtain rfl : o1 = o := by rw [ho'] at hj; injection hj with hj; exact hj.symm
          exact .inr (haf e he hbd)
        · exact .inr (hI.cl j o1 hj hl e he hbd)
      · rw [← hI.sz]; cases o.dst <;> simp [Act.put]
      · rw [← hI.df]; cases o.dst <;> simp [Act.put]
      · rw [← hI.ot t ht]
        cases hd : o.dst with
        | none => rfl
        | some d =>
          have hne : d ≠ t := fun e => ht o (List.mem_of_getElem? ho') (by rw [hd, e])
          simp [Act.put, Array.getElem?_setIfInBounds_ne hne]
    have hval : ∀ (j : Nat) (o1 : Oper) (d : Nat) (x : Value) (w1 w2 : World), l[j]? = some o1 → o1.dst = some d → ((pl.map KdB.v).getD j Fct.any).p x w1 → ((pl.map KdB.v).getD j Fct.any).p x w2 := fun j o1 d x w1 w2 hj _ hx => by
      obtain ⟨_, k, _, hk', _⟩ := stepsB_get h j o1 hj
      rw [hget j k hk'] at hx ⊢
      cases k with
      | val v => exact hx
      | box r => trivial
      | put r => trivial
    have hrd : ∀ r ∈ rs, r.j ≠ i → o.dst ≠ some r.d := fun r hr hne e => by
      obtain ⟨o1, e1, e2, _⟩ := hg.md r hr
      exact hne (K.un r.j o1 i o r.d e1 ho' e2 e)
    have hsetk : ∀ k, k ≠ i → (listed.setIfInBounds i true).getD k false = listed.getD k false := fun k hne => getD_set_ne false (Ne.symm hne)
    unfold wpOp
    simp only [ho]
    have hgn : o.guard = none := by cases p <;> exact hst.1
    have hwd : Region.wanted o (yielded l.toArray a'.tmps) = true := by
      unfold Region.wanted
      rw [hgn]
    simp only [hwd, if_true]
    have hfsother : ∀ (v : Value) (w'' : World) (j : Nat) (o1 : Oper) (d : Nat), l[j]? = some o1 → o1.dst = some d → j ≠ i → listed.getD j false = true → ((pl.map KdB.v).getD j Fct.any).p ((a'.put o.dst v).eval (.tmp d)) w'' := fun v w'' j o1 d hj hd hne hl => by
      rw [hput v d fun e => hne (K.un j o1 i o d hj ho' hd e)]
      exact hval j o1 d _ w' w'' hj hd (hI.fs j o1 d hj hd hl)
    cases p with
    | val x =>
      have hki : ∀ r ∈ rs, r.k ≠ i ∧ r.j ≠ i := fun r hr => by
        refine ⟨fun e => ?_, fun e => ?_⟩
        · obtain ⟨_, _, _, e3, _⟩ := hg.pt r hr
          rw [e, hp] at e3
          cases e3
        · obtain ⟨_, _, _, e3⟩ := hg.md r hr
          rw [e, hp] at e3
          cases e3
      refine .inl (leaves_wp (hst.2 a' w' hI.bl hlook) fun v w'' ⟨hv, hb⟩ => ?_)
      subst hv
      refine hcommon v w'' (fun j o1 d hj hd hl => ?_) (hI.bl.trans (hb.mono hI.bl.size)) (fun r hr hl => ?_) (fun r hr r' hr' hne hl hl' b => ?_)
      · by_cases hji : j = i
        · subst hji
          obtain rfl : o1 = o := by rw [ho'] at hj; injection hj with hj; exact hj.symm
          rw [hget j _ hp, hd]
          have hlt : d < a'.tmps.size := by rw [hI.sz]; exact K.dn j o1 d hj hd
          show (a'.put (some d) v).eval (.tmp d) = v
          simp [Act.put, Act.eval, hlt]
        · exact hfsother v w'' j o1 d hj hd hji (hl.resolve_left hji)
      · obtain ⟨b, e1, e2, e3, e4⟩ := hI.bx r hr (hl.resolve_left (hki r hr).2)
        refine ⟨b, by rw [hput v r.d (hrd r hr (hki r hr).2)]; exact e1, e2, Nat.lt_of_lt_of_le e3 hb.size, ?_⟩
        rw [hsetk r.k (hki r hr).1]
        exact (hb.block b e3).trans e4
      · rw [hput v r.d (hrd r hr (hki r hr).2), hput v r'.d (hrd r' hr' (hki r' hr').2)]
        exact hI.dj r hr r' hr' hne (hl.resolve_left (hki r hr).2) (hl'.resolve_left (hki r' hr').2) b
    | box r0 =>
      obtain ⟨hr0, hj0⟩ := hg.al i r0 hp
      have hki : ∀ r ∈ rs, r.k ≠ i := fun r hr e => by
        obtain ⟨_, _, _, e3, _⟩ := hg.pt r hr
        rw [e, hp] at e3; cases e3
      have hk0 : listed.getD r0.k false = false := by
        cases hl : listed.getD r0.k false with
        | false => rfl
        | true =>
          obtain ⟨o1, e1, _, _, e4⟩ := hg.pt r0 hr0
          obtain ⟨e, he, hb, hon⟩ := waits_spec e4
          have := hI.cl r0.k o1 e1 hl e he hb
          rw [hon, hj0, hi0] at this; cases this
      have hod : o.dst = some r0.d := by
        obtain ⟨o1, e1, e2, _⟩ := hg.md r0 hr0
        rw [hj0, ho'] at e1
        injection e1 with e1
        rw [e1]; exact e2
      have hlt : r0.d < a'.tmps.size := by rw [hI.sz]; exact K.dn i o r0.d ho' hod
      have hnew : (a'.put o.dst (.pointer (some ⟨w'.heap.size, 0, none⟩))).eval (.tmp r0.d) = .pointer (some ⟨w'.heap.size, 0, none⟩) := by
        rw [hod]; simp [Act.put, Act.eval, hlt]
      refine .inl (leaves_wp (K := fun v w'' => v = .pointer (some ⟨w'.heap.size, 0, none⟩) ∧ w'' = w'.alloc (.cells r0.z r0.ty)) (by rw [hst.2 a' w']; exact ⟨rfl, rfl⟩) fun v w'' ⟨hv, hw⟩ => ?_)
      subst hv hw
      have hb : Below w'.heap.size w' (w'.alloc (.cells r0.z r0.ty)) := (Below.refl _ _).alloc (Nat.le_refl _) _
      refine hcommon _ _ (fun j o1 d hj hd hl => ?_) (hI.bl.trans (hb.mono hI.bl.size)) (fun r hr hl => ?_) (fun r hr r' hr' hne hl hl' b => ?_)
      · by_cases hji : j = i
        · subst hji
          rw [hget j _ hp]; trivial
        · exact hfsother _ _ j o1 d hj hd hji (hl.resolve_left hji)
      · by_cases hri : r.j = i
        · obtain rfl := hg.un r hr r0 hr0 (.inl (by rw [hri, hj0]))
          refine ⟨_, hnew, hI.bl.size, by simp, ?_⟩
          rw [hsetk r.k (hki r hr), hk0]
          exact heap_alloc_new _ _
        · obtain ⟨b, e1, e2, e3, e4⟩ := hI.bx r hr (hl.resolve_left hri)
          refine ⟨b, by rw [hput _ r.d (hrd r hr hri)]; exact e1, e2, Nat.lt_of_lt_of_le e3 hb.size, ?_⟩
          rw [hsetk r.k (hki r hr)]
          exact (hb.block b e3).trans e4
      · by_cases hri : r.j = i
        · obtain rfl := hg.un r hr r0 hr0 (.inl (by rw [hri, hj0]))
          have hri' : r'.j ≠ i := fun e => hne (by rw [hri, e])
          rw [hnew, hput _ r'.d (hrd r' hr' hri')]
          obtain ⟨b', e1, _, e3, _⟩ := hI.bx r' hr' (hl'.resolve_left hri')
          rw [e1]
          intro h1 h2
          injection h1 with h1; injection h1 with h1; injection h1 with h1
          injection h2 with h2; injection h2 with h2; injection h2 with h2
          omega
        · by_cases hri' : r'.j = i
          · obtain rfl := hg.un r' hr' r0 hr0 (.inl (by rw [hri', hj0]))
            rw [hnew, hput _ r.d (hrd r hr hri)]
            obtain ⟨b', e1, _, e3, _⟩ := hI.bx r hr (hl.resolve_left hri)
            rw [e1]
            intro h1 h2
            injection h1 with h1; injection h1 with h1; injection h1 with h1
            injection h2 with h2; injection h2 with h2; injection h2 with h2
            omega
          · rw [hput _ r.d (hrd r hr hri), hput _ r'.d (hrd r' hr' hri')]
            exact hI.dj r hr r' hr' hne (hl.resolve_left hri) (hl'.resolve_left hri') b
    | put r0 =>
      obtain ⟨hr0, hk0⟩ := hg.ap i r0 hp
      obtain ⟨o1, e1, hod, _, e4⟩ := hg.pt r0 hr0
      rw [hk0, ho'] at e1
      injection e1 with e1
      subst e1
      have hjl : listed.getD r0.j false = true := by
        obtain ⟨e, he, hb, hon⟩ := waits_spec e4
        rw [← hon]; exact haf e he hb
      have hji : ∀ r ∈ rs, r.j ≠ i := fun r hr e => by
        obtain ⟨_, _, _, e3⟩ := hg.md r hr
        rw [e, hp] at e3; cases e3
      obtain ⟨b0, f1, f2, f3, f4⟩ := hI.bx r0 hr0 hjl
      rw [hk0, hi0] at f4
      refine .inl (leaves_wp (hst.2 a' w' b0 f1 f4 hlook) fun v w'' ⟨g1, g2, g3, g4, g5, g6⟩ => ?_)
      have hpn : a'.put o.dst v = a' := by rw [hod]; rfl
      have hbl : Below w.drew.heap.size w.drew w'' := ⟨g3.trans hI.bl.os, g4.trans hI.bl.tape, g5.trans hI.bl.output, by rw [g6]; exact hI.bl.size, fun g hgl => (g2 g (by omega)).trans (hI.bl.block g hgl)⟩
      refine hcommon v w'' (fun j o2 d hj hd hl => ?_) hbl (fun r hr hl => ?_) (fun r hr r' hr' hne hl hl' b => ?_)
      · by_cases hjk : j = i
        · subst hjk
          rw [hget j _ hp]; trivial
        · exact hfsother v w'' j o2 d hj hd hjk (hl.resolve_left hjk)
      · rw [hpn]
        obtain ⟨b, h1, h2, h3, h4⟩ := hI.bx r hr (hl.resolve_left (hji r hr))
        refine ⟨b, h1, h2, by rw [g6]; exact h3, ?_⟩
        by_cases hrk : r.k = i
        · obtain rfl := hg.un r hr r0 hr0 (.inr (by rw [hrk, hk0]))
          rw [f1] at h1
          injection h1 with h1; injection h1 with h1; injection h1 with h1
          subst h1
          rw [if_pos (by rw [hrk]; exact (getD_put hlt0).2 (.inl rfl))]
          exact g1
        · rw [hsetk r.k hrk]
          refine (g2 b fun e => ?_).trans h4
          subst e
          exact hI.dj r hr r0 hr0 (fun e => hrk ((congrArg BoxN.k (hg.un r hr r0 hr0 (.inl e))).trans hk0)) (hl.resolve_left (hji r hr)) hjl b h1 f1
      · rw [hpn]
        exact hI.dj r hr r' hr' hne (hl.resolve_left (hji r hr)) (hl'.resolve_left (hji r' hr')) b
  refine wp_region_any hm (wpAny_inv (InvB2 (pl.map KdB.v) n l rs a w.drew) (fun _ _ _ hI => hI.ls) hstep (fun listed a' w' hI hr => ?_) (fun listed hs hc => ?_) _ _ a w.drew ?_ ⟨by simp, fun j o hj hl => ?_, Below.refl _ _, hn, rfl, fun _ _ => rfl, fun j o d hj hd hl => ?_, fun r hr hl => ?_, fun r hr r' hr' hne hl => ?_⟩)
  · have hall : ∀ j o, l[j]? = some o → listed.getD j false = true := by
      intro j
      induction j using Nat.strongRecOn with
      | _ j ih =>
        intro o hj
        cases hl : listed.getD j false with
        | true => rfl
        | false =>
          have : j ∈ Region.ready .any l.toArray listed := by
            refine mem_ready.2 ⟨?_, o, by simpa using hj, fun e he hb => ?_⟩
            · have hlt : j < listed.size := by rw [hI.ls]; simpa using (List.getElem?_eq_some_iff.1 hj).1
              simpa [hlt] using hl
            · have h1 := K.ac j o hj e he hb
              have h2 : e.on < l.length := Nat.lt_trans h1 (List.getElem?_eq_some_iff.1 hj).1
              exact ih e.on h1 _ (List.getElem?_eq_getElem h2)
          rw [hr] at this
          cases this
    refine (finF_of (Fs := pl.map (KdB.f w.drew.heap.size)) (Q := fun a' w'' => (∀ r ∈ rs, ∀ r' ∈ rs, r.j ≠ r'.j → ∀ b, a'.eval (.tmp r.d) = .pointer (some ⟨b, 0, none⟩) → a'.eval (.tmp r'.d) ≠ .pointer (some ⟨b, 0, none⟩)) → Q .normal a' w'') l (pl.map (KdB.f w.drew.heap.size)) a (hf w' hI.bl) hI.df (by rw [hI.sz, hn]) (by rw [List.length_map]; exact hlen) hI.ot fun i o p d e1 e2 e3 => ⟨by rw [hI.sz]; exact K.dn i o d e1 e3, ?_⟩) fun r hr r' hr' hne b => ?_
    · have h1 := hI.fs i o d e1 e3 (hall i o e1)
      rw [List.getElem?_map] at e2
      cases hk' : pl[i]? with
      | none => rw [hk'] at e2; cases e2
      | some k =>
        rw [hk'] at e2
        injection e2 with e2
        subst e2
        rw [hget i k hk'] at h1
        cases k with
        | val v => exact h1
        | put r => trivial
        | box r =>
          obtain ⟨hr', hj'⟩ := hg.al i r hk'
          obtain ⟨o1, f1, f2, _⟩ := hg.md r hr'
          rw [hj', e1] at f1
          injection f1 with f1
          subst f1
          rw [e3] at f2
          injection f2 with f2
          subst f2
          obtain ⟨b, g1, g2, g3, g4⟩ := hI.bx r hr' (by rw [hj']; exact hall i o e1)
          obtain ⟨o2, f3, _⟩ := hg.pt r hr'
          rw [hall r.k o2 f3, if_pos rfl] at g4
          exact ⟨b, g1, g2, g3, g4⟩
    · obtain ⟨o1, f1, _⟩ := hg.md r hr
      obtain ⟨o2, f2, _⟩ := hg.md r' hr'
      exact hI.dj r hr r' hr' hne (hall r.j o1 f1) (hall r'.j o2 f2) b
  · refine List.eq_nil_iff_forall_not_mem.2 fun i hi => ?_
    obtain ⟨h0, o, ho, _⟩ := mem_ready.1 hi
    have hlt : i < listed.size := by rw [hs]; exact (Array.getElem?_eq_some_iff.1 ho).1
    have hf' : listed.toList[i]'(by simpa using hlt) = false := by simpa [hlt] using h0
    have : 0 < listed.toList.count false := List.count_pos_iff.2 (by rw [← hf']; exact List.getElem_mem _)
    omega
  · simp
  all_goals
    exfalso
    rw [Array.getD_eq_getD_getElem?, Array.getElem?_replicate] at hl
    split at hl <;> cases hl
end
end Go.Proofs.YthgglobfkkcdgaaGreat
namespace Go.Proofs.YthgglobfkkcdgaaGreat
open Go Go.RowKit Go.Shelf Go.Maps
set_option maxRecDepth 100000
set_option maxRecDepth 100000
section
variable {Fs : List Fct} {a0 : Act} {W : World} {dst : Option Tmp} {ty : TypeId} {pos : String} {after : Array Edge} {guard : Option (Nat × Bool)}
theorem gd_none : ∀ j want, (none : Option (Nat × Bool)) = some (j, want) → ∀ v w, (Fs.getD j Fct.any).p v w → v = .bool want := by intro _ _ h; cases h
theorem ev_get {a : Act} {s : Nat} {v : Value} (h : a.eval (.tmp s) = v) : a.tmps[s]?.getD undef = v := by rw [← h]; simp [Act.eval]
theorem st_load4 {s b : Nat} {x y z u : Value} (hg : ∀ j want, guard = some (j, want) → ∀ v w, (Fs.getD j Fct.any).p v w → v = .bool want) (hs : a0.eval (.tmp s) = .pointer (some ⟨b, 0, none⟩)) (hW : W.heap[b]? = some (.cells #[x, y, z, u] 24)) :
    stepF Tryz.prog Fs a0 W ⟨dst, .load 24 (.tmp s), ty, pos, after, guard⟩ [(s, none)] (Fct.eq (.agg #[x, y, z, u])) := by
  refine .inl ⟨hg, fun a w hb hl => ?_⟩
  have h1 := ev_get (hl.1.trans hs)
  obtain ⟨c0, c1, c2, c3⟩ := cells_four ((hb.block b (Array.getElem?_eq_some_iff.1 hW).1).trans hW)
  simp [go_sem, leaves, h1, c0, c1, c2, c3]
  exact ⟨Below.refl _ _, rfl⟩
theorem st_assign {s j : Nat} {v : Value} (hg : ∀ j want, guard = some (j, want) → ∀ v w, (Fs.getD j Fct.any).p v w → v = .bool want) (hF : Fs.getD j Fct.any = Fct.eq v) :
    stepF Tryz.prog Fs a0 W ⟨dst, .assign (.tmp s), ty, pos, after, guard⟩ [(s, some j)] (Fct.eq v) := by
  refine .inl ⟨hg, fun a w hb hl => ?_⟩
  have h0 := hl.1
  rw [hF] at h0
  have h1 := ev_get h0
  simp [go_sem, leaves, h1]
  exact ⟨Below.refl _ _, rfl⟩
end
end Go.Proofs.YthgglobfkkcdgaaGreat
namespace Go.Proofs.YthgglobfkkcdgaaGreat
open Go Go.RowKit Go.Shelf Go.Maps
set_option maxRecDepth 100000
section
variable {Fs : List Fct} {a0 : Act} {W : World} {dst : Option Tmp} {ty : TypeId} {pos : String} {after : Array Edge}
theorem sb_load2 {s b : Nat} {x y : Value} (hs : a0.eval (.tmp s) = .pointer (some ⟨b, 0, none⟩)) (hW : W.heap[b]? = some (.cells #[x, y] 74)) :
    stepB Tryz.prog Fs a0 W ⟨dst, .load 74 (.tmp s), ty, pos, after, none⟩ [(s, none)] (.val (.agg #[x, y])) := by
  refine ⟨rfl, fun a w hb hl => ?_⟩
  have h1 := ev_get (hl.1.trans hs)
  obtain ⟨c0, c1, _, _⟩ := cells_two ((hb.block b (Array.getElem?_eq_some_iff.1 hW).1).trans hW)
  simp [go_sem, leaves, h1, c0, c1]
  exact Below.refl _ _
theorem sb_call1 {f s j : Nat} {v r : Value} {t : TypeId} (hent : Go.Proofs.Enters Tryz.prog f) (hC : ∀ w, Below W.heap.size W w → Calls Tryz.prog f #[v] w fun e w' => e = .returned r ∧ Below w.heap.size w w') (hF : Fs.getD j Fct.any = Fct.eq v) :
    stepB Tryz.prog Fs a0 W ⟨dst, .call ⟨.value (.func f), #[.tmp s], #[t]⟩, ty, pos, after, none⟩ [(s, some j)] (.val r) := by
  refine ⟨rfl, fun a w hb hl => ?_⟩
  have h0 := hl.1
  rw [hF] at h0
  have e1 := ev_get h0
  have he := hent #[v] w
  simp [go_sem, leaves, e1, he]
  exact (hC w hb).mono fun e w' h => ⟨_, h.1, rfl, h.2⟩
theorem sb_call2 {f s s2 j j2 : Nat} {v v2 r : Value} {t t2 : TypeId} (hent : Go.Proofs.Enters Tryz.prog f) (hC : ∀ w, Below W.heap.size W w → Calls Tryz.prog f #[v, v2] w fun e w' => e = .returned r ∧ Below w.heap.size w w') (hF : Fs.getD j Fct.any = Fct.eq v) (hF2 : Fs.getD j2 Fct.any = Fct.eq v2) :
    stepB Tryz.prog Fs a0 W ⟨dst, .call ⟨.value (.func f), #[.tmp s, .tmp s2], #[t, t2]⟩, ty, pos, after, none⟩ [(s, some j), (s2, some j2)] (.val r) := by
  refine ⟨rfl, fun a w hb hl => ?_⟩
  obtain ⟨h0, h1, _⟩ := hl
  rw [hF] at h0
  rw [hF2] at h1
  have e1 := ev_get h0
  have e2 := ev_get h1
  have he := hent #[v, v2] w
  simp [go_sem, leaves, e1, e2, he]
  exact (hC w hb).mono fun e w' h => ⟨_, h.1, rfl, h.2⟩
theorem sb_move {s j : Nat} {v : Value} (hF : Fs.getD j Fct.any = Fct.eq v) : stepB Tryz.prog Fs a0 W ⟨dst, .move (.tmp s), ty, pos, after, none⟩ [(s, some j)] (.val v) := by
  refine ⟨rfl, fun a w hb hl => ?_⟩
  have h0 := hl.1
  rw [hF] at h0
  have e1 := ev_get h0
  simp [go_sem, leaves, e1]
  exact Below.refl _ _
theorem sb_extract0 {s j : Nat} {x y : Value} (hF : Fs.getD j Fct.any = Fct.eq (.tuple #[x, y])) : stepB Tryz.prog Fs a0 W ⟨dst, .extract (.tmp s) 0, ty, pos, after, none⟩ [(s, some j)] (.val x) := by
  refine ⟨rfl, fun a w hb hl => ?_⟩
  have h0 := hl.1
  rw [hF] at h0
  have e1 := ev_get h0
  simp [go_sem, leaves, e1]
  exact Below.refl _ _
theorem sb_extract1 {s j : Nat} {x y : Value} (hF : Fs.getD j Fct.any = Fct.eq (.tuple #[x, y])) : stepB Tryz.prog Fs a0 W ⟨dst, .extract (.tmp s) 1, ty, pos, after, none⟩ [(s, some j)] (.val y) := by
  refine ⟨rfl, fun a w hb hl => ?_⟩
  have h0 := hl.1
  rw [hF] at h0
  have e1 := ev_get h0
  simp [go_sem, leaves, e1]
  exact Below.refl _ _
theorem sb_boxRow {j d k : Nat} {x : Array Value} : stepB Tryz.prog Fs a0 W ⟨dst, .alloc 137, ty, pos, after, none⟩ [] (.box ⟨j, d, k, #[.pointer none, .int .i64 0, .int .i64 0], x, 137⟩) := by
  refine ⟨rfl, fun a w => ?_⟩
  simp [go_sem]
theorem sb_putRow {j d k s i i2 : Nat} {p : Option Addr} {m n : Int} {u v t : Value} (hF : Fs.getD i Fct.any = Fct.eq (.agg #[.pointer p, .int .i64 m, .int .i64 n])) : stepB Tryz.prog Fs a0 W ⟨none, .store 137 (.tmp d) (.tmp s), ty, pos, after, none⟩ [(d, some i2), (s, some i)] (.put ⟨j, d, k, #[u, v, t], #[.pointer p, .int .i64 m, .int .i64 n], 137⟩) := by
  refine ⟨rfl, fun a w b h1 h2 hl => ?_⟩
  have h0 := hl.2.1
  rw [hF] at h0
  have e1 := ev_get h0
  have e2 := ev_get h1
  obtain ⟨c0, c1, c2, f0, f1, f2⟩ := cells3 h2
  have h3 := set3 (x' := .pointer p) (y' := .int .i64 m) (z' := .int .i64 n) h2
  simp [go_sem, leaves, e1, e2, c0, c1, c2, f0, f1, f2]
  exact ⟨h3, fun g hg => (heap_setCell_other _ _ _ _ hg).trans ((heap_setCell_other _ _ _ _ hg).trans (heap_setCell_other _ _ _ _ hg)), rfl, rfl⟩
end
theorem FinS.skip {Q : Act → World → Prop} {w : World} {o : Oper} {l : List Oper} {p : Fct} {pl : List Fct} {a : Act} (hd : o.dst = none) (h : FinS Q w l pl a) : FinS Q w (o :: l) (p :: pl) a :=
  ⟨by unfold finF; rw [hd]; exact h.go⟩
section
variable {n bp bf : Nat} {P : Option Addr} {rk : List Int} {pc : Nat} {A : Option Addr} {H : List Hd} {hc : Nat} {ml : Value} {M : List (Int × Int)}
def rwL (bp d j : Nat) : BoxN := ⟨8, 5, 10, #[.pointer none, .int .i64 0, .int .i64 0], #[.pointer (some ⟨bp, 0, none⟩), .int .i64 (d : Int), .int .i64 (j : Int)], 137⟩
def rwM (bp d j : Nat) : BoxN := ⟨9, 6, 11, #[.pointer none, .int .i64 0, .int .i64 0], #[.pointer (some ⟨bp, 0, none⟩), .int .i64 (d : Int), .int .i64 (j : Int)], 137⟩
set_option maxHeartbeats 1000000 in
theorem lpoLeads_any {m : Nat} (h : AbvAt n bp bf P rk pc A H hc ml M m) (hM : M.Nodup) (hH : H.length ≤ 1099511627776) {s t : Tm} {i j : Nat} (w : World) (hs : OkT rk.length M s) (ht : OkT rk.length M t) (his : AtT rk.length M H i s) (hjt : AtT rk.length M H j t) (hz : s.size + t.size ≤ m + 1) (hI : FdW w n bp bf P rk pc A H hc ml (fdF rk rk.length M)) :
    Calls Tryz.prog 84 #[.agg #[.pointer (some ⟨bp, 0, none⟩), .int .i64 (i : Int)], .agg #[.pointer (some ⟨bp, 0, none⟩), .int .i64 (j : Int)]] w fun e w' => e = .returned (.bool (leadB rk s t)) ∧ KeepsC (· = bf) w w' ∧ FdW w' n bp bf P rk pc A H hc ml (fdF rk rk.length M) := by
  obtain ⟨q0, q1⟩ := heap2 w (.cells #[.pointer (some ⟨bp, 0, none⟩), .int .i64 (i : Int)] 74) (.cells #[.pointer (some ⟨bp, 0, none⟩), .int .i64 (j : Int)] 74)
  obtain ⟨W, hW⟩ : ∃ W, (w.alloc (.cells #[.pointer (some ⟨bp, 0, none⟩), .int .i64 (i : Int)] 74)).alloc (.cells #[.pointer (some ⟨bp, 0, none⟩), .int .i64 (j : Int)] 74) = W := ⟨_, rfl⟩
  have hB : Below w.heap.size w W := by rw [← hW]; exact ((Below.refl _ _).alloc (Nat.le_refl _) _).alloc (by simp) _
  rw [hW] at q0 q1
  have hlt := (Array.getElem?_eq_some_iff.1 q1).1
  obtain ⟨x0, x1, _, _⟩ := cells_two q0
  obtain ⟨y0, y1, _, _⟩ := cells_two q1
  have hIW := hI.on hB
  have hPW := hIW.pr
  have hil := his.lt
  have hjl := hjt.lt
  have hnl0 := hI.nl
  have H1 : Hid (∀ y : Later W.heap.size W, Calls Tryz.prog 65 #[.agg #[.pointer (some ⟨bp, 0, none⟩), .int .i64 (i : Int)]] y.w fun e w' => e = .returned (.agg #[.int .i64 s.fn, .int .i64 (s.size : Int), .int .i64 (numO rk.length M s)]) ∧ Below y.w.heap.size y.w w') := Lib.hid fun y => lpoHead_any y.w (hPW.on y.h) his.top'
  have H2 : Hid (∀ y : Later W.heap.size W, Calls Tryz.prog 65 #[.agg #[.pointer (some ⟨bp, 0, none⟩), .int .i64 (j : Int)]] y.w fun e w' => e = .returned (.agg #[.int .i64 t.fn, .int .i64 (t.size : Int), .int .i64 (numO rk.length M t)]) ∧ Below y.w.heap.size y.w w') := Lib.hid fun y => lpoHead_any y.w (hPW.on y.h) hjt.top'
  obtain ⟨ns, hns⟩ : ∃ k, numO rk.length M s = k := ⟨_, rfl⟩
  obtain ⟨nt, hnt⟩ : ∃ k, numO rk.length M t = k := ⟨_, rfl⟩
  rw [hns] at H1
  rw [hnt] at H2
  have hf1 : ∀ w : World, (Instr.field 97 (.agg #[.int .i64 s.fn, .int .i64 (s.size : Int), .int .i64 ns]) 0).run Tryz.prog w = .ok (.int .i64 s.fn) w := fun w => by kernel_rfl
  have hf2 : ∀ w : World, (Instr.field 97 (.agg #[.int .i64 t.fn, .int .i64 (t.size : Int), .int .i64 nt]) 0).run Tryz.prog w = .ok (.int .i64 t.fn) w := fun w => by kernel_rfl
  have m0 : ∀ y : Later W.heap.size W, y.w.cell? ⟨w.heap.size, 0, none⟩ = some (.pointer (some ⟨bp, 0, none⟩)) := fun y => cell_on y.h (by omega) x0
  have m1 : ∀ y : Later W.heap.size W, y.w.cell? ⟨w.heap.size, 1, none⟩ = some (.int .i64 (i : Int)) := fun y => cell_on y.h (by omega) x1
  have m2 : ∀ y : Later W.heap.size W, y.w.cell? ⟨w.heap.size + 1, 0, none⟩ = some (.pointer (some ⟨bp, 0, none⟩)) := fun y => cell_on y.h hlt y0
  have m3 : ∀ y : Later W.heap.size W, y.w.cell? ⟨w.heap.size + 1, 1, none⟩ = some (.int .i64 (j : Int)) := fun y => cell_on y.h hlt y1
  have HW := Lib.hid hW
  have HI := Lib.hid hIW
  have HB := Lib.hid hB
  have Hq0 := Lib.hid q0
  have Hq1 := Lib.hid q1
  by_cases hfn : s.fn = t.fn
  · have e1 : (s.fn != t.fn) = false := by simp [hfn]
    have Hfn := Lib.hid hfn
    clear hfn
    clear hW q0 q1 hI hIW hB hPW x0 x1 y0 y1 hns hnt
    go_enter Tryz.func84, Tryz.ntmps84
    go_upto_region 1 with fail
    rw [HW.out]
    refine wp_region_later W.heap.size W (by kernel_rfl) (by kernel_rfl) (bl_drewN (Below.refl _ _) 1) ?_
    repeat (go_big_quiet_step (first
      | (go_at_call 65; first
        | (with_reducible refine calls_later _ (Nat.le_refl _) (H1.out _))
        | (with_reducible refine calls_later _ (Nat.le_refl _) (H2.out _)))
      | fail))
    refine wpQuiet_nil ?_
    rintro _ ⟨z, rfl⟩
    clear m0 m1 m2 m3 H1 H2 hf1 hf2 e1
    have hIz : FdW z.w n bp bf P rk pc A H hc ml (fdF rk rk.length M) := HI.out.on z.h
    have z0 := (z.h.block _ (show w.heap.size < W.heap.size by omega)).trans Hq0.out
    have z1 := (z.h.block _ hlt).trans Hq1.out
    obtain ⟨D, hD⟩ : ∃ D, difL s.args t.args = D := ⟨_, rfl⟩
    obtain ⟨hd1, hd2⟩ := difL_at s.args t.args (i + 1) (i + s.size) (j + 1) (j + t.size) his.args hjt.args
    rw [hD] at hd1 hd2
    obtain ⟨d1, e1⟩ : ∃ d, i + s.size - sizes D.1 = d := ⟨_, rfl⟩
    obtain ⟨d2, e2⟩ : ∃ d, j + t.size - sizes D.2 = d := ⟨_, rfl⟩
    obtain ⟨j1, e3⟩ : ∃ d, i + s.size = d := ⟨_, rfl⟩
    obtain ⟨j2, e4⟩ : ∃ d, j + t.size = d := ⟨_, rfl⟩
    have C1 : ∀ w1, Below z.w.drew.heap.size z.w.drew w1 → Calls Tryz.prog 101 #[.agg #[.pointer (some ⟨bp, 0, none⟩), .int .i64 (i : Int)]] w1 fun e w' => e = .returned (.agg #[.pointer (some ⟨bp, 0, none⟩), .int .i64 ((i + 1 : Nat) : Int), .int .i64 (j1 : Int)]) ∧ Below w1.heap.size w1 w' := fun w1 hb => by
      rw [← e3]
      exact lpoArgs_any w1 (hIz.pr.on ((Below.refl _ _).drew.trans hb)) his.top' ⟨by show _ ≤ (i : Int) + (s.size : Int); omega, by show (i : Int) + (s.size : Int) ≤ _; omega⟩
    have C2 : ∀ w1, Below z.w.drew.heap.size z.w.drew w1 → Calls Tryz.prog 101 #[.agg #[.pointer (some ⟨bp, 0, none⟩), .int .i64 (j : Int)]] w1 fun e w' => e = .returned (.agg #[.pointer (some ⟨bp, 0, none⟩), .int .i64 ((j + 1 : Nat) : Int), .int .i64 (j2 : Int)]) ∧ Below w1.heap.size w1 w' := fun w1 hb => by
      rw [← e4]
      exact lpoArgs_any w1 (hIz.pr.on ((Below.refl _ _).drew.trans hb)) hjt.top' ⟨by show _ ≤ (j : Int) + (t.size : Int); omega, by show (j : Int) + (t.size : Int) ≤ _; omega⟩
    have C3 : ∀ w1, Below z.w.drew.heap.size z.w.drew w1 → Calls Tryz.prog 103 #[.agg #[.pointer (some ⟨bp, 0, none⟩), .int .i64 ((i + 1 : Nat) : Int), .int .i64 (j1 : Int)], .agg #[.pointer (some ⟨bp, 0, none⟩), .int .i64 ((j + 1 : Nat) : Int), .int .i64 (j2 : Int)]] w1 fun e w' => e = .returned (.tuple #[.agg #[.pointer (some ⟨bp, 0, none⟩), .int .i64 (d1 : Int), .int .i64 (j1 : Int)], .agg #[.pointer (some ⟨bp, 0, none⟩), .int .i64 (d2 : Int), .int .i64 (j2 : Int)]]) ∧ Below w1.heap.size w1 w' := fun w1 hb => by
      have h1 := lpoDiffering_any hM hH s.args t.args (i + 1) (i + s.size) (j + 1) (j + t.size) w1 (fun x hx => hs.arg hx) (fun x hx => ht.arg hx) his.args hjt.args (hIz.pr.on ((Below.refl _ _).drew.trans hb))
      rw [hD, e1, e2, e3, e4] at h1
      exact h1
    rw [e1, e3] at hd1
    rw [e2, e4] at hd2
    clear e1 e2
    have HIz := Lib.hid hIz
    have HD := Lib.hid hD
    clear hD hIz
    go_upto_region 3 with fail
    refine wp_region_boxes 43 [[(2, none)], [(15, some 0)], [(3, none)], [(17, some 2)], [(16, some 1), (18, some 3)], [(19, some 4)], [(14, some 5)], [(14, some 5)], [], [], [(5, some 8), (20, some 6)], [(6, some 9), (21, some 7)]]
      [.val (.agg #[.pointer (some ⟨bp, 0, none⟩), .int .i64 (i : Int)]), .val (.agg #[.pointer (some ⟨bp, 0, none⟩), .int .i64 ((i + 1 : Nat) : Int), .int .i64 (j1 : Int)]), .val (.agg #[.pointer (some ⟨bp, 0, none⟩), .int .i64 (j : Int)]), .val (.agg #[.pointer (some ⟨bp, 0, none⟩), .int .i64 ((j + 1 : Nat) : Int), .int .i64 (j2 : Int)]),
        .val (.tuple #[.agg #[.pointer (some ⟨bp, 0, none⟩), .int .i64 (d1 : Int), .int .i64 (j1 : Int)], .agg #[.pointer (some ⟨bp, 0, none⟩), .int .i64 (d2 : Int), .int .i64 (j2 : Int)]]), .val (.tuple #[.agg #[.pointer (some ⟨bp, 0, none⟩), .int .i64 (d1 : Int), .int .i64 (j1 : Int)], .agg #[.pointer (some ⟨bp, 0, none⟩), .int .i64 (d2 : Int), .int .i64 (j2 : Int)]]),
        .val (.agg #[.pointer (some ⟨bp, 0, none⟩), .int .i64 (d1 : Int), .int .i64 (j1 : Int)]), .val (.agg #[.pointer (some ⟨bp, 0, none⟩), .int .i64 (d2 : Int), .int .i64 (j2 : Int)]), .box (rwL bp d1 j1), .box (rwM bp d2 j2), .put (rwL bp d1 j1), .put (rwM bp d2 j2)] [rwL bp d1 j1, rwM bp d2 j2] (by kernel_rfl) (by decide +kernel) ?_ (by kernel_rfl) ?_ ?_
    · refine ⟨fun r hr => ?_, fun r hr => ?_, fun r hr r' hr' he => ?_, fun k r hk => ?_, fun k r hk => ?_⟩
      · simp only [List.mem_cons, List.not_mem_nil, or_false] at hr
        rcases hr with rfl | rfl
        · exact ⟨_, rfl, rfl, rfl⟩
        · exact ⟨_, rfl, rfl, rfl⟩
      · simp only [List.mem_cons, List.not_mem_nil, or_false] at hr
        rcases hr with rfl | rfl
        · exact ⟨_, rfl, rfl, rfl, show waits _ 8 = true by decide +kernel⟩
        · exact ⟨_, rfl, rfl, rfl, show waits _ 9 = true by decide +kernel⟩
      · simp only [List.mem_cons, List.not_mem_nil, or_false] at hr hr'
        rcases hr with rfl | rfl <;> rcases hr' with rfl | rfl
        · rfl
        · simp [rwL, rwM] at he
        · simp [rwL, rwM] at he
        · rfl
      · have hk12 : k < 12 := (List.getElem?_eq_some_iff.1 hk).1
        obtain rfl | rfl | rfl | rfl | rfl | rfl | rfl | rfl | rfl | rfl | rfl | rfl : k = 0 ∨ k = 1 ∨ k = 2 ∨ k = 3 ∨ k = 4 ∨ k = 5 ∨ k = 6 ∨ k = 7 ∨ k = 8 ∨ k = 9 ∨ k = 10 ∨ k = 11 := by omega
        all_goals simp at hk
        · subst hk; exact ⟨by simp, rfl⟩
        · subst hk; exact ⟨by simp, rfl⟩
      · have hk12 : k < 12 := (List.getElem?_eq_some_iff.1 hk).1
        obtain rfl | rfl | rfl | rfl | rfl | rfl | rfl | rfl | rfl | rfl | rfl | rfl : k = 0 ∨ k = 1 ∨ k = 2 ∨ k = 3 ∨ k = 4 ∨ k = 5 ∨ k = 6 ∨ k = 7 ∨ k = 8 ∨ k = 9 ∨ k = 10 ∨ k = 11 := by omega
        all_goals simp at hk
        · subst hk; exact ⟨by simp, rfl⟩
        · subst hk; exact ⟨by simp, rfl⟩
    · exact ⟨sb_load2 rfl z0, sb_call1 (enters_of Tryz.func101 (by kernel_rfl) rfl) C1 rfl, sb_load2 rfl z1, sb_call1 (enters_of Tryz.func101 (by kernel_rfl) rfl) C2 rfl, sb_call2 (enters_of Tryz.func103 (by kernel_rfl) rfl) C3 rfl rfl, sb_move rfl, sb_extract0 rfl, sb_extract1 rfl, sb_boxRow, sb_boxRow, sb_putRow rfl, sb_putRow rfl, trivial⟩
    · intro w4 hb4
      generalize hA0 : ({ tmps := _, defers := _ } : Act) = a0
      have hsz : a0.tmps.size = 43 := by rw [← hA0]; rfl
      simp only [List.map_cons, List.map_nil]
      refine (FinS.some rfl (fun u0 (e0 : u0 = _) => ?_)).go
      subst e0
      refine FinS.some rfl (fun u1 (e1 : u1 = _) => ?_)
      subst e1
      refine FinS.some rfl (fun u2 (e2 : u2 = _) => ?_)
      subst e2
      refine FinS.some rfl (fun u3 (e3 : u3 = _) => ?_)
      subst e3
      refine FinS.some rfl (fun u4 (e4 : u4 = _) => ?_)
      subst e4
      refine FinS.some rfl (fun u5 (e5 : u5 = _) => ?_)
      subst e5
      refine FinS.some rfl (fun u6 (e6 : u6 = _) => ?_)
      subst e6
      refine FinS.some rfl (fun u7 (e7 : u7 = _) => ?_)
      subst e7
      refine FinS.some rfl (fun u8 e8 => FinS.some rfl (fun u9 e9 => FinS.skip rfl (FinS.skip rfl (FinS.nil fun hdj => ?_))))
      obtain ⟨b5, rfl, g1, g2, g3⟩ := e8
      obtain ⟨b6, rfl, k1, k2, k3⟩ := e9
      have hne : ¬ b5 = b6 := fun e => by
        subst e
        exact hdj (rwL bp d1 j1) (by simp) (rwM bp d2 j2) (by simp) (by simp [rwL, rwM]) b5 (by simp [Act.put, Act.eval, hsz, rwL]) (by simp [Act.put, Act.eval, hsz, rwM])
      clear hdj
      subst hA0
      clear hsz
      simp only [Act.put, List.setIfInBounds_toArray, List.set_cons_succ, List.set_cons_zero]
      have hb4z : Below z.w.heap.size z.w w4 := (Below.refl _ _).drew.trans hb4
      have hI4 := HIz.out.on hb4z
      change w4.heap[b5]? = some (.cells #[.pointer (some ⟨bp, 0, none⟩), .int .i64 (d1 : Int), .int .i64 (j1 : Int)] 137) at g3
      change w4.heap[b6]? = some (.cells #[.pointer (some ⟨bp, 0, none⟩), .int .i64 (d2 : Int), .int .i64 (j2 : Int)] 137) at k3
      obtain ⟨v0, v1, v2, _, _, _⟩ := cells3 g3
      obtain ⟨p0, p1, p2, _, _, _⟩ := cells3 k3
      have hKw : KeepsC (· = bf) w w4 := (KeepsC.of_below HB.out).trans ((KeepsC.of_below z.h).trans (KeepsC.of_below hb4z))
      have hK4 := Lib.hid hKw
      have HI4 := Lib.hid hI4
      have Hd1 := Lib.hid hd1
      have Hd2 := Lib.hid hd2
      have hbf4 := hI4.lf
      have hnl4 := hI4.nl
      have hg3 := Lib.hid g3
      have hk3 := Lib.hid k3
      have hleq : leadB rk s t = (match difL s.args t.args with | ([], _) => false | (_ :: _, []) => true | (a :: _, b :: m) => lpT rk a b && m.all fun y => lpT rk s y) := by
        unfold leadB; rw [decide_eq_true Hfn.out, Bool.true_and]; rfl
      rw [HD.out] at hleq
      have E0 : ∀ w1 : World, Calls Tryz.prog 104 #[.agg #[.pointer (some ⟨bp, 0, none⟩), .int .i64 (d1 : Int), .int .i64 (j1 : Int)]] w1 fun e w' => e = .returned (.bool (decide ((j1 : Int) ≤ (d1 : Int)))) ∧ Below w1.heap.size w1 w' := fun w1 => lpoEmpty_any _ _ _ w1
      have G0 : ∀ w1 : World, Calls Tryz.prog 104 #[.agg #[.pointer (some ⟨bp, 0, none⟩), .int .i64 (d2 : Int), .int .i64 (j2 : Int)]] w1 fun e w' => e = .returned (.bool (decide ((j2 : Int) ≤ (d2 : Int)))) ∧ Below w1.heap.size w1 w' := fun w1 => lpoEmpty_any _ _ _ w1
      have HDD := HD.out
      have HB4z := Lib.hid hb4z
      clear hKw hI4 hb4 hd1 hd2 C1 C2 C3 HD hb4z z0 z1
      have hB_w4 : Below w4.heap.size w4 w4 := Below.refl _ _
      match D, hleq, Hd1, Hd2, HDD with
      | ([], ys'), hleq, Hd1, Hd2, _ =>
        have hj := Hd1.out.empty
        simp only [decide_eq_true (show (j1 : Int) ≤ (d1 : Int) by omega)] at E0
        have E1 := Lib.hid E0
        have hfin := Lib.hid (show leadB rk s t = false from hleq)
        clear E0 G0 hleq hj
        go_wp2_with (first
          | (go_at_call 104; (with_reducible refine (E1.out w4).mono ?_); go_must (rintro e w5 ⟨rfl, hx_w5⟩; have hB_w5 : Below w4.heap.size w4 w5 := hB_w4.trans (hx_w5.mono hB_w4.size); obtain ⟨r0, r1, r2, _, _, _⟩ := cells3 ((hB_w5.block _ g2).trans hg3.out); obtain ⟨t0, t1, t2, _, _, _⟩ := cells3 ((hB_w5.block _ k2).trans hk3.out)))
          | (go_at_call 104; (with_reducible refine (E1.out w5).mono ?_); go_must (rintro e w6 ⟨rfl, hx_w6⟩; have hB_w6 : Below w4.heap.size w4 w6 := hB_w5.trans (hx_w6.mono hB_w5.size); obtain ⟨a0, a1, a2, _, _, _⟩ := cells3 ((hB_w6.block _ g2).trans hg3.out); obtain ⟨b0, b1, b2, _, _, _⟩ := cells3 ((hB_w6.block _ k2).trans hk3.out)))
          | fail)
        go_ret
        exact ⟨ret_bool hfin.out.symm, hK4.out.trans (KeepsC.of_below hB_w6), HI4.out.on hB_w6⟩
      | (x :: xs', []), hleq, Hd1, Hd2, _ =>
        have hj := Hd2.out.empty
        have hle := Hd1.out.le.2
        have hzx := size_pos x
        rw [sizes] at hle
        simp only [decide_eq_false (show ¬ (j1 : Int) ≤ (d1 : Int) by omega)] at E0
        simp only [decide_eq_true (show (j2 : Int) ≤ (d2 : Int) by omega)] at G0
        have E1 := Lib.hid E0
        have G1 := Lib.hid G0
        have hfin := Lib.hid (show leadB rk s t = true from hleq)
        clear E0 G0 hleq hj hle
        go_wp2_with (first
          | (go_at_call 104; (with_reducible refine (E1.out w4).mono ?_); go_must (rintro e w5 ⟨rfl, hx_w5⟩; have hB_w5 : Below w4.heap.size w4 w5 := hB_w4.trans (hx_w5.mono hB_w4.size); obtain ⟨r0, r1, r2, _, _, _⟩ := cells3 ((hB_w5.block _ g2).trans hg3.out); obtain ⟨t0, t1, t2, _, _, _⟩ := cells3 ((hB_w5.block _ k2).trans hk3.out)))
          | (go_at_call 104; (with_reducible refine (G1.out w5).mono ?_); go_must (rintro e w6 ⟨rfl, hx_w6⟩; have hB_w6 : Below w4.heap.size w4 w6 := hB_w5.trans (hx_w6.mono hB_w5.size); obtain ⟨a0, a1, a2, _, _, _⟩ := cells3 ((hB_w6.block _ g2).trans hg3.out); obtain ⟨b0, b1, b2, _, _, _⟩ := cells3 ((hB_w6.block _ k2).trans hk3.out)))
          | (go_at_call 104; (with_reducible refine (E1.out w6).mono ?_); go_must (rintro e w7 ⟨rfl, hx_w7⟩; have hB_w7 : Below w4.heap.size w4 w7 := hB_w6.trans (hx_w7.mono hB_w6.size); obtain ⟨c0, c1, c2, _, _, _⟩ := cells3 ((hB_w7.block _ g2).trans hg3.out); obtain ⟨d0, d1, d2, _, _, _⟩ := cells3 ((hB_w7.block _ k2).trans hk3.out)))
          | fail)
        go_ret
        exact ⟨ret_bool hfin.out.symm, hK4.out.trans (KeepsC.of_below hB_w7), HI4.out.on hB_w7⟩
      | (x :: xs', y :: ys'), hleq, Hd1, Hd2, hDD =>
        have hle := Hd1.out.le.2
        have hle2 := Hd2.out.le
        have hzx := size_pos x
        have hzy := size_pos y
        rw [sizes] at hle hle2
        simp only [decide_eq_false (show ¬ (j1 : Int) ≤ (d1 : Int) by omega)] at E0
        simp only [decide_eq_false (show ¬ (j2 : Int) ≤ (d2 : Int) by omega)] at G0
        have E1 := Lib.hid E0
        have G1 := Lib.hid G0
        have hfin := Lib.hid (show leadB rk s t = (lpT rk x y && ys'.all fun u => lpT rk s u) from hleq)
        have hmx : x ∈ s.args := by
          obtain ⟨pre, e1, _⟩ := difL_spec s.args t.args
          rw [e1, hDD]; simp
        have hmy : ∀ u, u ∈ y :: ys' → u ∈ t.args := fun u hu => by
          obtain ⟨pre, _, e1, _⟩ := difL_spec s.args t.args
          rw [e1, hDD]; exact List.mem_append_right _ hu
        have hd2j : d2 < j2 := by omega
        have hyj : d2 + y.size ≤ 1099511627776 := by omega
        clear E0 G0 hleq hle hle2
        go_upto_region 6 with (first
          | (go_at_call 104; (with_reducible refine (E1.out w4).mono ?_); go_must (rintro e w5 ⟨rfl, hx_w5⟩; have hB_w5 : Below w4.heap.size w4 w5 := hB_w4.trans (hx_w5.mono hB_w4.size); obtain ⟨r0, r1, r2, _, _, _⟩ := cells3 ((hB_w5.block _ g2).trans hg3.out); obtain ⟨t0, t1, t2, _, _, _⟩ := cells3 ((hB_w5.block _ k2).trans hk3.out)))
          | (go_at_call 104; (with_reducible refine (G1.out w5).mono ?_); go_must (rintro e w6 ⟨rfl, hx_w6⟩; have hB_w6 : Below w4.heap.size w4 w6 := hB_w5.trans (hx_w6.mono hB_w5.size); obtain ⟨a0, a1, a2, _, _, _⟩ := cells3 ((hB_w6.block _ g2).trans hg3.out); obtain ⟨b0, b1, b2, _, _, _⟩ := cells3 ((hB_w6.block _ k2).trans hk3.out)))
          | fail)
        have hI6 := HI4.out.on hB_w6
        have hz6 := hB_w6.size
        have hI' : ∀ u : LatF w6 bf (fun w => FdW w n bp bf P rk pc A H hc ml (fdF rk rk.length M)), FdW u.w n bp bf P rk pc A H hc ml (fdF rk rk.length M) := fun u => u.i hI6
        have hst : ∀ a b : World, FdW a n bp bf P rk pc A H hc ml (fdF rk rk.length M) → Below a.heap.size a b → FdW b n bp bf P rk pc A H hc ml (fdF rk rk.length M) := fun a b h hb => h.on hb
        have N1 : Hid (∀ u : LatF w6 bf (fun w => FdW w n bp bf P rk pc A H hc ml (fdF rk rk.length M)), Calls Tryz.prog 105 #[.agg #[.pointer (some ⟨bp, 0, none⟩), .int .i64 (d1 : Int), .int .i64 (j1 : Int)]] u.w fun e w' => e = .returned (.agg #[.pointer (some ⟨bp, 0, none⟩), .int .i64 (d1 : Int)]) ∧ Below u.w.heap.size u.w w') := Lib.hid fun u => lpoFirst_any _ _ u.w
        have N2 : Hid (∀ u : LatF w6 bf (fun w => FdW w n bp bf P rk pc A H hc ml (fdF rk rk.length M)), Calls Tryz.prog 105 #[.agg #[.pointer (some ⟨bp, 0, none⟩), .int .i64 (d2 : Int), .int .i64 (j2 : Int)]] u.w fun e w' => e = .returned (.agg #[.pointer (some ⟨bp, 0, none⟩), .int .i64 (d2 : Int)]) ∧ Below u.w.heap.size u.w w') := Lib.hid fun u => lpoFirst_any _ _ u.w
        have N3 : Hid (∀ u : LatF w6 bf (fun w => FdW w n bp bf P rk pc A H hc ml (fdF rk rk.length M)), Calls Tryz.prog 46 #[.agg #[.pointer (some ⟨bp, 0, none⟩), .int .i64 (d1 : Int)], .agg #[.pointer (some ⟨bp, 0, none⟩), .int .i64 (d2 : Int)]] u.w fun e w' => e = .returned (.bool (lpT rk x y)) ∧ KeepsC (· = bf) u.w w' ∧ (FdW u.w n bp bf P rk pc A H hc ml (fdF rk rk.length M) → FdW w' n bp bf P rk pc A H hc ml (fdF rk rk.length M))) := Lib.hid fun u => (h x y d1 d2 u.w (by have := size_args hmx; have := size_args (hmy y (by simp)); omega) (hs.arg hmx) (ht.arg (hmy y (by simp))) Hd1.out.first Hd2.out.first (hI' u)).mono fun e w' ⟨a1, a2, a3⟩ => ⟨a1, a2, fun _ => a3⟩
        have N4 : Hid (∀ u : LatF w6 bf (fun w => FdW w n bp bf P rk pc A H hc ml (fdF rk rk.length M)), Calls Tryz.prog 106 #[.agg #[.pointer (some ⟨bp, 0, none⟩), .int .i64 (d2 : Int), .int .i64 (j2 : Int)]] u.w fun e w' => e = .returned (.agg #[.pointer (some ⟨bp, 0, none⟩), .int .i64 ((d2 : Int) + (y.size : Int)), .int .i64 (j2 : Int)]) ∧ Below u.w.heap.size u.w w') := Lib.hid fun u => lpoRest_any u.w (hI' u).pr Hd2.out.first.top' ⟨by show _ ≤ (d2 : Int) + (y.size : Int); omega, by show (d2 : Int) + (y.size : Int) ≤ _; omega⟩ hd2j
        have N5 : Hid (∀ u : LatF w6 bf (fun w => FdW w n bp bf P rk pc A H hc ml (fdF rk rk.length M)), Calls Tryz.prog 102 #[.agg #[.pointer (some ⟨bp, 0, none⟩), .int .i64 ((d2 : Int) + (y.size : Int)), .int .i64 (j2 : Int)], .func (.func 46) #[.agg #[.pointer (some ⟨bp, 0, none⟩), .int .i64 (i : Int)]] #[]] u.w fun e w' => e = .returned (.bool (ys'.all fun v => lpT rk s v)) ∧ KeepsC (· = bf) u.w w' ∧ (FdW u.w n bp bf P rk pc A H hc ml (fdF rk rk.length M) → FdW w' n bp bf P rk pc A H hc ml (fdF rk rk.length M))) := Lib.hid fun u =>
          (lpoEach_any (h.hld hs his) hbf4 hH ys' (d2 + y.size) j2 u.w Hd2.out.rest (fun v hv => ⟨ht.arg (hmy v (by simp [hv])), by have := size_args (hmy v (by simp [hv])); omega⟩) (hI' u).nl (hI' u)).mono fun e w' ⟨a1, a2, a3⟩ => ⟨a1, a2, fun _ => a3⟩
        have hzs := z.h.size
        have hg1 : z.w.heap.size ≤ b5 := g1
        have hk1 : z.w.heap.size ≤ b6 := k1
        obtain ⟨a0, a1, a2, _, _, _⟩ := cells3 ((hB_w6.block _ g2).trans hg3.out)
        obtain ⟨c0, c1, c2, _, _, _⟩ := cells3 ((hB_w6.block _ k2).trans hk3.out)
        obtain ⟨x0, x1, _, _⟩ := cells_two ((hB_w6.block _ (show w.heap.size < w4.heap.size by omega)).trans ((HB4z.out.block _ (show w.heap.size < z.w.heap.size by omega)).trans ((z.h.block _ (show w.heap.size < W.heap.size by omega)).trans Hq0.out)))
        have o0 : ∀ u : LatF w6 bf (fun w => FdW w n bp bf P rk pc A H hc ml (fdF rk rk.length M)), u.w.cell? ⟨b5, 0, none⟩ = some (.pointer (some ⟨bp, 0, none⟩)) := fun u => u.cell (by omega) (by omega) a0
        have o1 : ∀ u : LatF w6 bf (fun w => FdW w n bp bf P rk pc A H hc ml (fdF rk rk.length M)), u.w.cell? ⟨b5, 1, none⟩ = some (.int .i64 (d1 : Int)) := fun u => u.cell (by omega) (by omega) a1
        have o2 : ∀ u : LatF w6 bf (fun w => FdW w n bp bf P rk pc A H hc ml (fdF rk rk.length M)), u.w.cell? ⟨b5, 2, none⟩ = some (.int .i64 (j1 : Int)) := fun u => u.cell (by omega) (by omega) a2
        have o3 : ∀ u : LatF w6 bf (fun w => FdW w n bp bf P rk pc A H hc ml (fdF rk rk.length M)), u.w.cell? ⟨b6, 0, none⟩ = some (.pointer (some ⟨bp, 0, none⟩)) := fun u => u.cell (by omega) (by omega) c0
        have o4 : ∀ u : LatF w6 bf (fun w => FdW w n bp bf P rk pc A H hc ml (fdF rk rk.length M)), u.w.cell? ⟨b6, 1, none⟩ = some (.int .i64 (d2 : Int)) := fun u => u.cell (by omega) (by omega) c1
        have o5 : ∀ u : LatF w6 bf (fun w => FdW w n bp bf P rk pc A H hc ml (fdF rk rk.length M)), u.w.cell? ⟨b6, 2, none⟩ = some (.int .i64 (j2 : Int)) := fun u => u.cell (by omega) (by omega) c2
        have o6 : ∀ u : LatF w6 bf (fun w => FdW w n bp bf P rk pc A H hc ml (fdF rk rk.length M)), u.w.cell? ⟨w.heap.size, 0, none⟩ = some (.pointer (some ⟨bp, 0, none⟩)) := fun u => u.cell (by omega) (by omega) x0
        have o7 : ∀ u : LatF w6 bf (fun w => FdW w n bp bf P rk pc A H hc ml (fdF rk rk.length M)), u.w.cell? ⟨w.heap.size, 1, none⟩ = some (.int .i64 (i : Int)) := fun u => u.cell (by omega) (by omega) x1
        have hmf : ∀ (fn : Fn) (first cap : Array Value) (w : World), (Instr.makeFunc fn first cap).run Tryz.prog w = .ok (.func fn first cap) w := fun _ _ _ _ => rfl
        have HI6 := Lib.hid hI6
        have hK6 : Hid (KeepsC (· = bf) w w6) := Lib.hid (hK4.out.trans (KeepsC.of_below hB_w6))
        obtain ⟨q, hq⟩ : ∃ q, (ys'.all fun u => lpT rk s u) = q := ⟨_, rfl⟩
        rw [hq] at hfin N5
        clear hq a0 a1 a2 c0 c1 c2 x0 x1 r0 r1 r2 t0 t1 t2 v0 v1 v2 p0 p1 p2 hI6 hmx hmy E1 G1
        clear a0 a1 a2 b0 b1 b2
        cases hxy : lpT rk x y with
        | true =>
          rw [hxy] at N3 hfin
          rw [Bool.true_and] at hfin
          clear hxy
          refine wp_region_lat w6 bf (fun w => FdW w n bp bf P rk pc A H hc ml (fdF rk rk.length M)) (by kernel_rfl) (by kernel_rfl) (KeepsC.of_below (bl_drewN (Below.refl _ _) 1)) (fun h => h.on (bl_drewN (Below.refl _ _) 1)) ?_
          repeat (go_big_quiet_step (first
            | (go_at_call 105; first
              | (with_reducible refine calls_latB _ hst (N1.out _))
              | (with_reducible refine calls_latB _ hst (N2.out _)))
            | (go_at_call 46; with_reducible refine calls_latF _ (N3.out _))
            | (go_at_call 106; with_reducible refine calls_latB _ hst (N4.out _))
            | (go_at_call 102; with_reducible refine calls_latF _ (N5.out _))
            | fail))
          refine wpQuiet_nil ?_
          rintro _ ⟨v, rfl⟩
          clear o0 o1 o2 o3 o4 o5 o6 o7
          go_wp2
          go_ret
          exact ⟨ret_bool hfin.out.symm, hK6.out.trans v.h, v.i HI6.out⟩
        | false =>
          rw [hxy] at N3 hfin
          rw [Bool.false_and] at hfin
          clear hxy
          refine wp_region_lat w6 bf (fun w => FdW w n bp bf P rk pc A H hc ml (fdF rk rk.length M)) (by kernel_rfl) (by kernel_rfl) (KeepsC.of_below (bl_drewN (Below.refl _ _) 1)) (fun h => h.on (bl_drewN (Below.refl _ _) 1)) ?_
          repeat (go_big_quiet_step (first
            | (go_at_call 105; first
              | (with_reducible refine calls_latB _ hst (N1.out _))
              | (with_reducible refine calls_latB _ hst (N2.out _)))
            | (go_at_call 46; with_reducible refine calls_latF _ (N3.out _))
            | (go_at_call 106; with_reducible refine calls_latB _ hst (N4.out _))
            | (go_at_call 102; with_reducible refine calls_latF _ (N5.out _))
            | fail))
          refine wpQuiet_nil ?_
          rintro _ ⟨v, rfl⟩
          clear o0 o1 o2 o3 o4 o5 o6 o7
          go_wp2
          go_ret
          exact ⟨ret_bool hfin.out.symm, hK6.out.trans v.h, v.i HI6.out⟩
  · have e1 : (s.fn != t.fn) = true := by simp [hfn]
    have hfin := Lib.hid (show leadB rk s t = false by unfold leadB; rw [decide_eq_false hfn, Bool.false_and])
    clear hfn hW q0 q1 hI hIW hB hPW x0 x1 y0 y1 hns hnt
    go_enter Tryz.func84, Tryz.ntmps84
    go_upto_region 1 with fail
    rw [HW.out]
    refine wp_region_later W.heap.size W (by kernel_rfl) (by kernel_rfl) (bl_drewN (Below.refl _ _) 1) ?_
    repeat (go_big_quiet_step (first
      | (go_at_call 65; first
        | (with_reducible refine calls_later _ (Nat.le_refl _) (H1.out _))
        | (with_reducible refine calls_later _ (Nat.le_refl _) (H2.out _)))
      | fail))
    refine wpQuiet_nil ?_
    rintro _ ⟨z, rfl⟩
    clear m0 m1 m2 m3 H1 H2 hf1 hf2 e1
    go_wp2
    go_ret
    exact ⟨ret_bool hfin.out.symm, (KeepsC.of_below HB.out).trans (KeepsC.of_below z.h), HI.out.on z.h⟩
end
end Go.Proofs.YthgglobfkkcdgaaGreat
namespace Go.Proofs.YthgglobfkkcdgaaGreat
open Go.RowKit Go.Shelf Go.Maps
set_option maxRecDepth 100000
section
variable {n bp bf : Nat} {P : Option Addr} {rk : List Int} {pc : Nat} {A : Option Addr} {H : List Hd} {hc : Nat} {ml : Value} {M : List (Int × Int)}
set_option maxHeartbeats 1000000 in
theorem lpoRest_empty (fr to' : Nat) (w : World) (hlt0 : to' ≤ fr) :
    Calls Tryz.prog 106 #[.agg #[.pointer (some ⟨bp, 0, none⟩), .int .i64 (fr : Int), .int .i64 (to' : Int)]] w fun e w' => e = .returned (.agg #[.pointer (some ⟨bp, 0, none⟩), .int .i64 (fr : Int), .int .i64 (to' : Int)]) ∧ Below w.heap.size w w' := by
  obtain ⟨W, hW⟩ : ∃ W, (w.alloc (.cells #[.pointer (some ⟨bp, 0, none⟩), .int .i64 (fr : Int), .int .i64 (to' : Int)] 137)).alloc (.cells #[.pointer none, .int .i64 0, .int .i64 0] 137) = W := ⟨_, rfl⟩
  obtain ⟨q0, q1⟩ := heap2 w (.cells #[.pointer (some ⟨bp, 0, none⟩), .int .i64 (fr : Int), .int .i64 (to' : Int)] 137) (.cells #[.pointer none, .int .i64 0, .int .i64 0] 137)
  have hb : Below w.heap.size w W := by rw [← hW]; exact ((Below.refl _ _).alloc (Nat.le_refl _) _).alloc (by simp) _
  rw [hW] at q0 q1
  have hlt := (Array.getElem?_eq_some_iff.1 q1).1
  obtain ⟨z0, z1, z2, _, _, _⟩ := cells3 q0
  have HW := Lib.hid hW
  have hdec : decide ((to' : Int) ≤ (fr : Int)) = true := decide_eq_true (by omega)
  have hE := lpoEmpty_any (fr : Int) (to' : Int) (.pointer (some ⟨bp, 0, none⟩)) W
  rw [hdec] at hE
  have HE := Lib.hid hE
  have HQ0 := Lib.hid q0
  have HQ := Lib.hid q1
  clear hW q0 q1 hE hdec
  go_enter Tryz.func106, Tryz.ntmps106
  go_upto_region 1 with fail
  rw [HW.out]
  go_wp2_with (first
    | (go_at_call 104; go_must ((with_reducible refine HE.out.mono ?_); rintro e w0 ⟨rfl, hb0⟩; obtain ⟨y0, y1, y2, _, _, _⟩ := cells3 ((hb0.block _ (by omega)).trans HQ0.out); obtain ⟨s0, s1, s2, t0, t1, t2⟩ := cells3 ((hb0.block _ hlt).trans HQ.out); have HQ2 := Lib.hid ((hb0.block _ hlt).trans HQ.out)))
    | fail)
  obtain ⟨e0, e1, e2, _, _, _⟩ := cells3 (set3 (x' := .pointer (some ⟨bp, 0, none⟩)) (y' := .int .i64 (fr : Int)) (z' := .int .i64 (to' : Int)) HQ2.out)
  have hBe := below3 (x := .pointer (some ⟨bp, 0, none⟩)) (y := .int .i64 (fr : Int)) (z := .int .i64 (to' : Int)) (hb.trans (hb0.mono hb.size)) (show w.heap.size ≤ w.heap.size + 1 by omega)
  exact bodyPost_ret (v := .agg #[.pointer (some ⟨bp, 0, none⟩), .int .i64 (fr : Int), .int .i64 (to' : Int)]) (by simp [results, Tryz.results106, go_sem, e0, e1, e2]) rfl ⟨rfl, hBe⟩
set_option maxHeartbeats 1000000 in
theorem lpoCovers_any {m : Nat} (h : AbvAt n bp bf P rk pc A H hc ml M m) (hM : M.Nodup) (hH : H.length ≤ 1099511627776) {s t : Tm} {i j : Nat} (w : World) (hs : OkT rk.length M s) (ht : OkT rk.length M t) (his : AtT rk.length M H i s) (hjt : AtT rk.length M H j t) (hz : s.size + t.size ≤ m + 1) (hI : FdW w n bp bf P rk pc A H hc ml (fdF rk rk.length M)) :
    Calls Tryz.prog 85 #[.agg #[.pointer (some ⟨bp, 0, none⟩), .int .i64 (i : Int)], .agg #[.pointer (some ⟨bp, 0, none⟩), .int .i64 (j : Int)]] w fun e w' => e = .returned (.bool (covB rk s t)) ∧ KeepsC (· = bf) w w' ∧ FdW w' n bp bf P rk pc A H hc ml (fdF rk rk.length M) := by
  obtain ⟨q0, q1⟩ := heap2 w (.cells #[.pointer (some ⟨bp, 0, none⟩), .int .i64 (i : Int)] 74) (.cells #[.pointer (some ⟨bp, 0, none⟩), .int .i64 (j : Int)] 74)
  obtain ⟨W, hW⟩ : ∃ W, (w.alloc (.cells #[.pointer (some ⟨bp, 0, none⟩), .int .i64 (i : Int)] 74)).alloc (.cells #[.pointer (some ⟨bp, 0, none⟩), .int .i64 (j : Int)] 74) = W := ⟨_, rfl⟩
  have hB : Below w.heap.size w W := by rw [← hW]; exact ((Below.refl _ _).alloc (Nat.le_refl _) _).alloc (by simp) _
  rw [hW] at q0 q1
  have hlt := (Array.getElem?_eq_some_iff.1 q1).1
  obtain ⟨x0, x1, _, _⟩ := cells_two q0
  obtain ⟨y0, y1, _, _⟩ := cells_two q1
  have hIW := hI.on hB
  have hnl0 := hI.nl
  have hbf0 := hI.lf
  have hPW := hIW.pr
  have hil := his.lt
  have hjl := hjt.lt
  have V0 : ∀ w1, Below W.heap.size W w1 → Calls Tryz.prog 97 #[.agg #[.pointer (some ⟨bp, 0, none⟩), .int .i64 (j : Int)]] w1 fun e w' => e = .returned (.bool (decide (t.fn < 0))) ∧ Below w1.heap.size w1 w' := fun w1 hb => lpoVariable_any w1 (hPW.on hb) hjt.top'
  have G0 : ∀ w1, Below W.heap.size W w1 → Calls Tryz.prog 100 #[.agg #[.pointer (some ⟨bp, 0, none⟩), .int .i64 (i : Int)], .agg #[.pointer (some ⟨bp, 0, none⟩), .int .i64 (j : Int)]] w1 fun e w' => e = .returned (.bool (higB rk s t)) ∧ Below w1.heap.size w1 w' := fun w1 hb => lpoHigher_any w1 (hPW.on hb) his.top' hjt.top' hs.fn_lt ht.fn_lt
  have A0 : Hid (∀ w1, Below W.heap.size W w1 → Calls Tryz.prog 101 #[.agg #[.pointer (some ⟨bp, 0, none⟩), .int .i64 (i : Int)]] w1 fun e w' => e = .returned (.agg #[.pointer (some ⟨bp, 0, none⟩), .int .i64 ((i : Int) + 1), .int .i64 ((i : Int) + (s.size : Int))]) ∧ Below w1.heap.size w1 w') := Lib.hid fun w1 hb => lpoArgs_any w1 (hPW.on hb) his.top' ⟨by show _ ≤ (i : Int) + (s.size : Int); omega, by show (i : Int) + (s.size : Int) ≤ _; omega⟩
  have A1 : Hid (∀ w1, Below W.heap.size W w1 → Calls Tryz.prog 101 #[.agg #[.pointer (some ⟨bp, 0, none⟩), .int .i64 (j : Int)]] w1 fun e w' => e = .returned (.agg #[.pointer (some ⟨bp, 0, none⟩), .int .i64 ((j : Int) + 1), .int .i64 ((j : Int) + (t.size : Int))]) ∧ Below w1.heap.size w1 w') := Lib.hid fun w1 hb => lpoArgs_any w1 (hPW.on hb) hjt.top' ⟨by show _ ≤ (j : Int) + (t.size : Int); omega, by show (j : Int) + (t.size : Int) ≤ _; omega⟩
  have HX : Hid (∀ w1, Below W.heap.size W w1 → w1.cell? ⟨w.heap.size, 0, none⟩ = some (.pointer (some ⟨bp, 0, none⟩)) ∧ w1.cell? ⟨w.heap.size, 1, none⟩ = some (.int .i64 (i : Int)) ∧ w1.cell? ⟨w.heap.size + 1, 0, none⟩ = some (.pointer (some ⟨bp, 0, none⟩)) ∧ w1.cell? ⟨w.heap.size + 1, 1, none⟩ = some (.int .i64 (j : Int))) := Lib.hid fun w1 hb => ⟨cell_on hb (by omega) x0, cell_on hb (by omega) x1, cell_on hb hlt y0, cell_on hb hlt y1⟩
  have HW := Lib.hid hW
  have HI := Lib.hid hIW
  have HB := Lib.hid hB
  have HPW := Lib.hid hPW
  by_cases htv : t.fn < 0
  · have hfin := Lib.hid (show covB rk s t = false by unfold covB; rw [decide_eq_true htv]; rfl)
    simp only [decide_eq_true htv] at V0
    have HV := Lib.hid (V0 W (Below.refl _ _))
    clear hW q0 q1 hI hIW hB hPW V0 G0 htv
    go_enter Tryz.func85, Tryz.ntmps85
    go_upto_region 1 with fail
    rw [HW.out]
    go_wp2_with (first
      | (go_at_call 97; (with_reducible refine HV.out.mono ?_); go_must (rintro e w1 ⟨rfl, hb1⟩))
      | fail)
    go_ret
    exact ⟨ret_bool hfin.out.symm, (KeepsC.of_below HB.out).trans (KeepsC.of_below hb1), HI.out.on hb1⟩
  · simp only [decide_eq_false htv] at V0
    have HV := Lib.hid (V0 W (Below.refl _ _))
    cases hh : higB rk s t with
    | true =>
      have hfin := Lib.hid (show covB rk s t = false by unfold covB; rw [hh]; simp)
      simp only [hh] at G0
      have HG := Lib.hid G0
      clear hW q0 q1 hI hIW hB hPW V0 G0 htv hh
      go_enter Tryz.func85, Tryz.ntmps85
      go_upto_region 1 with fail
      rw [HW.out]
      go_wp2_with (first
        | (go_at_call 97; (with_reducible refine HV.out.mono ?_); go_must (rintro e w1 ⟨rfl, hb1⟩; obtain ⟨u0, u1, u2, u3⟩ := HX.out w1 hb1))
        | (go_at_call 100; (with_reducible refine (HG.out w1 hb1).mono ?_); go_must (rintro e w2 ⟨rfl, hb2⟩; have hB2 := hb1.trans (hb2.mono hb1.size)))
        | fail)
      go_ret
      exact ⟨ret_bool hfin.out.symm, (KeepsC.of_below HB.out).trans (KeepsC.of_below hB2), HI.out.on hB2⟩
    | false =>
      have hcov : covB rk s t = ((covRow s t).any fun x => decide (cmpT x t = 0) || lpT rk x t) := by unfold covB; rw [hh, decide_eq_false htv]; rfl
      have Hcov := Lib.hid hcov
      simp only [hh] at G0
      have HG := Lib.hid G0
      have Htv := Lib.hid htv
      clear hW q0 q1 hI hIW hB hPW V0 G0 htv hh hcov
      go_enter Tryz.func85, Tryz.ntmps85
      go_upto_region 1 with fail
      rw [HW.out]
      go_upto_region 4 with (first
        | (go_at_call 97; (with_reducible refine HV.out.mono ?_); go_must (rintro e w1 ⟨rfl, hb1⟩; obtain ⟨u0, u1, u2, u3⟩ := HX.out w1 hb1))
        | (go_at_call 100; (with_reducible refine (HG.out w1 hb1).mono ?_); go_must (rintro e w2 ⟨rfl, hb2⟩; have hB2 := hb1.trans (hb2.mono hb1.size); obtain ⟨v0, v1, v2, v3⟩ := HX.out w2 hB2))
        | (go_at_call 101; (with_reducible refine (A0.out w2 hB2).mono ?_); go_must (rintro e w3 ⟨rfl, hb3⟩; have hB3 := hB2.trans (hb3.mono hB2.size)))
        | fail)
      have hB3' := hB3
      obtain ⟨X, hX⟩ : ∃ X, w3.alloc (.cells #[.pointer (some ⟨bp, 0, none⟩), .int .i64 ((i : Int) + 1), .int .i64 ((i : Int) + (s.size : Int))] 137) = X := ⟨_, rfl⟩
      have c0 := heap_alloc_new w3 (.cells #[.pointer (some ⟨bp, 0, none⟩), .int .i64 ((i : Int) + 1), .int .i64 ((i : Int) + (s.size : Int))] 137)
      have hBX : Below W.heap.size W X := by rw [← hX]; exact hB3.alloc hB3.size _
      have hXz : X.heap.size = w3.heap.size + 1 := by rw [← hX]; simp
      rw [hX] at c0 ⊢
      have hbfn := hbf0
      have hw3 := hB3.size
      have hPX := HPW.out.on hBX
      have H1 : Hid (∀ y : Later X.heap.size X, Calls Tryz.prog 65 #[.agg #[.pointer (some ⟨bp, 0, none⟩), .int .i64 (i : Int)]] y.w fun e w' => e = .returned (.agg #[.int .i64 s.fn, .int .i64 (s.size : Int), .int .i64 (numO rk.length M s)]) ∧ Below y.w.heap.size y.w w') := Lib.hid fun y => lpoHead_any y.w (hPX.on y.h) his.top'
      have H2 : Hid (∀ y : Later X.heap.size X, Calls Tryz.prog 65 #[.agg #[.pointer (some ⟨bp, 0, none⟩), .int .i64 (j : Int)]] y.w fun e w' => e = .returned (.agg #[.int .i64 t.fn, .int .i64 (t.size : Int), .int .i64 (numO rk.length M t)]) ∧ Below y.w.heap.size y.w w') := Lib.hid fun y => lpoHead_any y.w (hPX.on y.h) hjt.top'
      obtain ⟨ns, hns⟩ : ∃ k, numO rk.length M s = k := ⟨_, rfl⟩
      obtain ⟨nt, hnt⟩ : ∃ k, numO rk.length M t = k := ⟨_, rfl⟩
      rw [hns] at H1
      rw [hnt] at H2
      have hf1 : ∀ w : World, (Instr.field 97 (.agg #[.int .i64 s.fn, .int .i64 (s.size : Int), .int .i64 ns]) 0).run Tryz.prog w = .ok (.int .i64 s.fn) w := fun w => by kernel_rfl
      have hf2 : ∀ w : World, (Instr.field 97 (.agg #[.int .i64 t.fn, .int .i64 (t.size : Int), .int .i64 nt]) 0).run Tryz.prog w = .ok (.int .i64 t.fn) w := fun w => by kernel_rfl
      obtain ⟨a0, a1, a2, a3⟩ := HX.out X hBX
      have m0 : ∀ y : Later X.heap.size X, y.w.cell? ⟨w.heap.size, 0, none⟩ = some (.pointer (some ⟨bp, 0, none⟩)) := fun y => cell_on y.h (by omega) a0
      have m1 : ∀ y : Later X.heap.size X, y.w.cell? ⟨w.heap.size, 1, none⟩ = some (.int .i64 (i : Int)) := fun y => cell_on y.h (by omega) a1
      have m2 : ∀ y : Later X.heap.size X, y.w.cell? ⟨w.heap.size + 1, 0, none⟩ = some (.pointer (some ⟨bp, 0, none⟩)) := fun y => cell_on y.h (by omega) a2
      have m3 : ∀ y : Later X.heap.size X, y.w.cell? ⟨w.heap.size + 1, 1, none⟩ = some (.int .i64 (j : Int)) := fun y => cell_on y.h (by omega) a3
      have hmf : ∀ (fn : Fn) (first cap : Array Value) (w : World), (Instr.makeFunc fn first cap).run Tryz.prog w = .ok (.func fn first cap) w := fun _ _ _ _ => rfl
      have HBX := Lib.hid hBX
      have Hc0 := Lib.hid c0
      have hargs := his.args
      have Hargs := Lib.hid hargs
      have hmem : ∀ x ∈ s.args, OkT rk.length M x ∧ x.size + t.size ≤ m := fun x hx => ⟨hs.arg hx, by have := size_args hx; omega⟩
      have Hmem := Lib.hid hmem
      clear hX hBX hPX hns hnt a0 a1 a2 a3 u0 u1 u2 u3 v0 v1 v2 v3 c0 hargs hmem hB3 hb1 hb2 hb3 hB2 HV HG hB3'
      by_cases hfn : s.fn = t.fn
      · have e1 : (s.fn == t.fn) = true := by simp [hfn]
        have Hfn := Lib.hid hfn
        clear hfn
        refine wp_region_later X.heap.size X (by kernel_rfl) (by kernel_rfl) (bl_drewN (Below.refl _ _) 1) ?_
        repeat (go_big_quiet_step (first
          | (go_at_call 65; first
            | (with_reducible refine calls_later _ (Nat.le_refl _) (H1.out _))
            | (with_reducible refine calls_later _ (Nat.le_refl _) (H2.out _)))
          | fail))
        refine wpQuiet_nil ?_
        rintro _ ⟨z, rfl⟩
        clear m0 m1 m2 m3 H1 H2 hf1 hf2 e1
        have hBz : Below W.heap.size W z.w := HBX.out.trans (z.h.mono HBX.out.size)
        have hIz := HI.out.on hBz
        obtain ⟨r0, r1, r2, r3⟩ := HX.out z.w hBz
        obtain ⟨s0, s1, s2, _, _, _⟩ := cells3 ((z.h.block _ (show w3.heap.size < X.heap.size by omega)).trans Hc0.out)
        obtain ⟨D, hD⟩ : ∃ D, difL s.args t.args = D := ⟨_, rfl⟩
        obtain ⟨hd1, _⟩ := difL_at s.args t.args (i + 1) (i + s.size) (j + 1) (j + t.size) Hargs.out hjt.args
        rw [hD] at hd1
        have C3 : ∀ w1, Below z.w.heap.size z.w w1 → Calls Tryz.prog 103 #[.agg #[.pointer (some ⟨bp, 0, none⟩), .int .i64 ((i : Int) + 1), .int .i64 ((i : Int) + (s.size : Int))], .agg #[.pointer (some ⟨bp, 0, none⟩), .int .i64 ((j : Int) + 1), .int .i64 ((j : Int) + (t.size : Int))]] w1 fun e w' => e = .returned (.tuple #[.agg #[.pointer (some ⟨bp, 0, none⟩), .int .i64 ((i + s.size - sizes D.1 : Nat) : Int), .int .i64 ((i : Int) + (s.size : Int))], .agg #[.pointer (some ⟨bp, 0, none⟩), .int .i64 ((j + t.size - sizes D.2 : Nat) : Int), .int .i64 ((j : Int) + (t.size : Int))]]) ∧ Below w1.heap.size w1 w' := fun w1 hb => by
          have h1 := lpoDiffering_any hM hH s.args t.args (i + 1) (i + s.size) (j + 1) (j + t.size) w1 (fun x hx => hs.arg hx) (fun x hx => ht.arg hx) Hargs.out hjt.args (hIz.pr.on hb)
          rw [hD] at h1
          exact h1
        obtain ⟨d1, e1⟩ : ∃ d, i + s.size - sizes D.1 = d := ⟨_, rfl⟩
        obtain ⟨d2, e2⟩ : ∃ d, j + t.size - sizes D.2 = d := ⟨_, rfl⟩
        rw [e1] at hd1
        rw [e1, e2] at C3
        have HC3 := Lib.hid C3
        have Hd1 := Lib.hid hd1
        have HD := Lib.hid hD
        have HIz := Lib.hid hIz
        have Hz0 := Lib.hid ((z.h.block _ (show w3.heap.size < X.heap.size by omega)).trans Hc0.out)
        have hzlt : w3.heap.size < z.w.heap.size := Nat.lt_of_lt_of_le (by omega) z.h.size
        have hzd : Below W.heap.size W z.w.drew := hBz.drew
        clear e1 e2 hd1 C3 hD hIz
        go_upto_region 5 with fail
        go_region_law
          (first
            | (go_simp
               go_at_call 101
               (with_reducible refine (A1.out _ hzd).mono ?_)
               rintro e w5 ⟨rfl, hx5⟩
               have hB5 : Below z.w.heap.size z.w w5 := ⟨hx5.os, hx5.tape, hx5.output, hx5.size, hx5.block⟩
               obtain ⟨g0, g1, g2, _, _, _⟩ := cells3 ((hB5.block _ hzlt).trans Hz0.out)
               dsimp only)
            | (go_simp
               go_at_call 103
               (with_reducible refine (HC3.out _ hB5).mono ?_)
               rintro e w6 ⟨rfl, hx6⟩
               have hB6 : Below z.w.heap.size z.w w6 := hB5.trans (hx6.mono hB5.size)
               have T6 := Lib.hid ((hB6.block _ hzlt).trans Hz0.out)
               obtain ⟨k0, k1, k2, l0, l1, l2⟩ := cells3 T6.out
               dsimp only)
            | fail)
        all_goals
          have hs6 := hB6.size
          have U0 := Lib.hid (set3 (x' := .pointer (some ⟨bp, 0, none⟩)) (y' := .int .i64 (d1 : Int)) (z' := .int .i64 ((i : Int) + (s.size : Int))) T6.out)
          have hBU := below3 (x := .pointer (some ⟨bp, 0, none⟩)) (y := .int .i64 (d1 : Int)) (z := .int .i64 ((i : Int) + (s.size : Int))) (hBz.trans (hB6.mono hBz.size)) (show W.heap.size ≤ w3.heap.size from hw3)
          have hsU : ((((w6.setCell ⟨w3.heap.size, 0, none⟩ (.pointer (some ⟨bp, 0, none⟩))).setCell ⟨w3.heap.size, 1, none⟩ (.int .i64 (d1 : Int))).setCell ⟨w3.heap.size, 2, none⟩ (.int .i64 ((i : Int) + (s.size : Int))))).heap.size = w6.heap.size := by simp
          obtain ⟨U, hU⟩ : ∃ U, (((w6.setCell ⟨w3.heap.size, 0, none⟩ (.pointer (some ⟨bp, 0, none⟩))).setCell ⟨w3.heap.size, 1, none⟩ (.int .i64 (d1 : Int))).setCell ⟨w3.heap.size, 2, none⟩ (.int .i64 ((i : Int) + (s.size : Int)))) = U := ⟨_, rfl⟩
          rw [hU] at U0 hBU hsU ⊢
          clear hU
          have hUI := HI.out.on hBU
          obtain ⟨m0, m1, m2, m3⟩ := HX.out U hBU
          obtain ⟨c0, c1, c2, _, _, _⟩ := cells3 U0.out
          have hUlt : w3.heap.size < U.heap.size := by omega
          match D, Hd1, HD with
          | ([], ys'), Hd1, HD =>
            have hde := Hd1.out.empty
            have HR : Hid (Calls Tryz.prog 106 #[.agg #[.pointer (some ⟨bp, 0, none⟩), .int .i64 (d1 : Int), .int .i64 ((i : Int) + (s.size : Int))]] U fun e w' => e = .returned (.agg #[.pointer (some ⟨bp, 0, none⟩), .int .i64 ((d1 : Int)), .int .i64 ((i : Int) + (s.size : Int))]) ∧ Below U.heap.size U w') := Lib.hid (lpoRest_empty d1 (i + s.size) U (by omega))
            have hfin : Hid (covB rk s t = (([] : List Tm).any fun x => decide (cmpT x t = 0) || lpT rk x t)) := Lib.hid (by rw [Hcov.out]; unfold covRow; rw [if_pos Hfn.out, HD.out]; rfl)
            clear hUI
            go_upto_region 7 with (first
              | (go_at_call 106; (with_reducible refine HR.out.mono ?_); go_must (rintro e w7 ⟨rfl, hb7⟩; have T7 := Lib.hid ((hb7.block _ hUlt).trans U0.out); obtain ⟨n0, n1, n2, p0, p1, p2⟩ := cells3 T7.out))
              | fail)
            have V0 := set3 (x' := .pointer (some ⟨bp, 0, none⟩)) (y' := .int .i64 ((d1 : Int))) (z' := .int .i64 ((i : Int) + (s.size : Int))) T7.out
            have hBV := below3 (x := .pointer (some ⟨bp, 0, none⟩)) (y := .int .i64 ((d1 : Int))) (z := .int .i64 ((i : Int) + (s.size : Int))) (hBU.trans (hb7.mono hBU.size)) (show W.heap.size ≤ w3.heap.size from hw3)
            obtain ⟨V, hV⟩ : ∃ V, (((w7.setCell ⟨w3.heap.size, 0, none⟩ (.pointer (some ⟨bp, 0, none⟩))).setCell ⟨w3.heap.size, 1, none⟩ (.int .i64 ((d1 : Int)))).setCell ⟨w3.heap.size, 2, none⟩ (.int .i64 ((i : Int) + (s.size : Int)))) = V := ⟨_, rfl⟩
            rw [hV] at V0 hBV ⊢
            clear hV
            have hIV := HI.out.on hBV
            obtain ⟨q0, q1, q2, _, _, _⟩ := cells3 V0
            obtain ⟨v0, v1, v2, v3⟩ := HX.out V hBV
            have HS : Hid (Calls Tryz.prog 107 #[.agg #[.pointer (some ⟨bp, 0, none⟩), .int .i64 ((d1 : Int)), .int .i64 ((i : Int) + (s.size : Int))], .func (.func 108) #[.agg #[.pointer (some ⟨bp, 0, none⟩), .int .i64 (j : Int)]] #[]] V fun e w' => e = .returned (.bool (([] : List Tm).any fun x => decide (cmpT x t = 0) || lpT rk x t)) ∧ KeepsC (· = bf) V w' ∧ FdW w' n bp bf P rk pc A H hc ml (fdF rk rk.length M)) := Lib.hid (lpoSome_any (h.hldR hM ht hjt) hbfn hH ([] : List Tm) (d1) (i + s.size) V Hd1.out (fun x hx => by simp at hx) hIV.nl hIV)
            have hKV : KeepsC (· = bf) w V := (KeepsC.of_below HB.out).trans (KeepsC.of_below hBV)
            clear hIV V0
            go_wp2_with (first
              | (go_at_call 107; (with_reducible refine HS.out.mono ?_); go_must (rintro e w8 ⟨rfl, hk8, hI8⟩; have hI8 := Lib.hid hI8))
              | fail)
            go_ret
            exact ⟨ret_bool hfin.out.symm, hKV.trans hk8, hI8.out⟩
          | (x :: xs', ys'), Hd1, HD =>
            have hle := Hd1.out.le
            have hzx := size_pos x
            rw [sizes] at hle
            have hsub : ∀ u ∈ xs', OkT rk.length M u ∧ u.size + t.size ≤ m := fun u hu => Hmem.out u (by
              obtain ⟨pre, e1, _⟩ := difL_spec s.args t.args
              rw [e1, HD.out]
              exact List.mem_append_right _ (List.mem_cons_of_mem _ hu))
            have HR : Hid (Calls Tryz.prog 106 #[.agg #[.pointer (some ⟨bp, 0, none⟩), .int .i64 (d1 : Int), .int .i64 ((i : Int) + (s.size : Int))]] U fun e w' => e = .returned (.agg #[.pointer (some ⟨bp, 0, none⟩), .int .i64 ((d1 : Int) + (x.size : Int)), .int .i64 ((i : Int) + (s.size : Int))]) ∧ Below U.heap.size U w') := Lib.hid (lpoRest_any U hUI.pr Hd1.out.first.top' ⟨by show _ ≤ (d1 : Int) + (x.size : Int); omega, by show (d1 : Int) + (x.size : Int) ≤ _; omega⟩ (by omega))
            have hfin : Hid (covB rk s t = (xs'.any fun x => decide (cmpT x t = 0) || lpT rk x t)) := Lib.hid (by rw [Hcov.out]; unfold covRow; rw [if_pos Hfn.out, HD.out]; rfl)
            clear hUI
            go_upto_region 7 with (first
              | (go_at_call 106; (with_reducible refine HR.out.mono ?_); go_must (rintro e w7 ⟨rfl, hb7⟩; have T7 := Lib.hid ((hb7.block _ hUlt).trans U0.out); obtain ⟨n0, n1, n2, p0, p1, p2⟩ := cells3 T7.out))
              | fail)
            have V0 := set3 (x' := .pointer (some ⟨bp, 0, none⟩)) (y' := .int .i64 ((d1 : Int) + (x.size : Int))) (z' := .int .i64 ((i : Int) + (s.size : Int))) T7.out
            have hBV := below3 (x := .pointer (some ⟨bp, 0, none⟩)) (y := .int .i64 ((d1 : Int) + (x.size : Int))) (z := .int .i64 ((i : Int) + (s.size : Int))) (hBU.trans (hb7.mono hBU.size)) (show W.heap.size ≤ w3.heap.size from hw3)
            obtain ⟨V, hV⟩ : ∃ V, (((w7.setCell ⟨w3.heap.size, 0, none⟩ (.pointer (some ⟨bp, 0, none⟩))).setCell ⟨w3.heap.size, 1, none⟩ (.int .i64 ((d1 : Int) + (x.size : Int)))).setCell ⟨w3.heap.size, 2, none⟩ (.int .i64 ((i : Int) + (s.size : Int)))) = V := ⟨_, rfl⟩
            rw [hV] at V0 hBV ⊢
            clear hV
            have hIV := HI.out.on hBV
            obtain ⟨q0, q1, q2, _, _, _⟩ := cells3 V0
            obtain ⟨v0, v1, v2, v3⟩ := HX.out V hBV
            have HS : Hid (Calls Tryz.prog 107 #[.agg #[.pointer (some ⟨bp, 0, none⟩), .int .i64 ((d1 : Int) + (x.size : Int)), .int .i64 ((i : Int) + (s.size : Int))], .func (.func 108) #[.agg #[.pointer (some ⟨bp, 0, none⟩), .int .i64 (j : Int)]] #[]] V fun e w' => e = .returned (.bool (xs'.any fun x => decide (cmpT x t = 0) || lpT rk x t)) ∧ KeepsC (· = bf) V w' ∧ FdW w' n bp bf P rk pc A H hc ml (fdF rk rk.length M)) := Lib.hid (lpoSome_any (h.hldR hM ht hjt) hbfn hH xs' (d1 + x.size) (i + s.size) V Hd1.out.rest hsub hIV.nl hIV)
            have hKV : KeepsC (· = bf) w V := (KeepsC.of_below HB.out).trans (KeepsC.of_below hBV)
            clear hIV V0
            go_wp2_with (first
              | (go_at_call 107; (with_reducible refine HS.out.mono ?_); go_must (rintro e w8 ⟨rfl, hk8, hI8⟩; have hI8 := Lib.hid hI8))
              | fail)
            go_ret
            exact ⟨ret_bool hfin.out.symm, hKV.trans hk8, hI8.out⟩
      · have e1 : (s.fn == t.fn) = false := by simp [hfn]
        have Hfn := Lib.hid hfn
        clear hfn
        refine wp_region_later X.heap.size X (by kernel_rfl) (by kernel_rfl) (bl_drewN (Below.refl _ _) 1) ?_
        repeat (go_big_quiet_step (first
          | (go_at_call 65; first
            | (with_reducible refine calls_later _ (Nat.le_refl _) (H1.out _))
            | (with_reducible refine calls_later _ (Nat.le_refl _) (H2.out _)))
          | fail))
        refine wpQuiet_nil ?_
        rintro _ ⟨z, rfl⟩
        clear m0 m1 m2 m3 H1 H2 hf1 hf2 e1
        have hBz : Below W.heap.size W z.w := HBX.out.trans (z.h.mono HBX.out.size)
        have hIz := HI.out.on hBz
        obtain ⟨r0, r1, r2, r3⟩ := HX.out z.w hBz
        obtain ⟨s0, s1, s2, _, _, _⟩ := cells3 ((z.h.block _ (show w3.heap.size < X.heap.size by omega)).trans Hc0.out)
        have HS : Hid (Calls Tryz.prog 107 #[.agg #[.pointer (some ⟨bp, 0, none⟩), .int .i64 ((i : Int) + 1), .int .i64 ((i : Int) + (s.size : Int))], .func (.func 108) #[.agg #[.pointer (some ⟨bp, 0, none⟩), .int .i64 (j : Int)]] #[]] z.w fun e w' => e = .returned (.bool (s.args.any fun x => decide (cmpT x t = 0) || lpT rk x t)) ∧ KeepsC (· = bf) z.w w' ∧ FdW w' n bp bf P rk pc A H hc ml (fdF rk rk.length M)) := Lib.hid (lpoSome_any (h.hldR hM ht hjt) hbfn hH s.args (i + 1) (i + s.size) z.w Hargs.out Hmem.out hIz.nl hIz)
        have hfin : Hid (covB rk s t = (s.args.any fun x => decide (cmpT x t = 0) || lpT rk x t)) := Lib.hid (by rw [Hcov.out]; unfold covRow; rw [if_neg Hfn.out])
        have hKz : KeepsC (· = bf) w z.w := (KeepsC.of_below HB.out).trans (KeepsC.of_below hBz)
        clear hIz
        go_wp2_with (first
          | (go_at_call 107; (with_reducible refine HS.out.mono ?_); go_must (rintro e w5 ⟨rfl, hk5, hI5⟩; have hI5 := Lib.hid hI5))
          | fail)
        go_ret
        exact ⟨ret_bool hfin.out.symm, hKz.trans hk5, hI5.out⟩
end
end Go.Proofs.YthgglobfkkcdgaaGreat
