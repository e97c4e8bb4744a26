import Derived.Test.YthgglobfkkcdgaaGreatDoorP48S15
import Derived.Deep.LoopGhost
namespace Go.Proofs.YthgglobfkkcdgaaGreatDoor
open Go.RowKit Go.Shelf Go.Maps
set_option maxRecDepth 100000
structure HldC (k : FuncId) (fs cv : Array Value) (q : Tm → Bool) (S : Tm → Prop) (I : World → Prop) (n bp bf : Nat) (P : Option Addr) (rk : List Int) (pc : Nat) (A : Option Addr) (H : List Hd) (hc : Nat) (ml : Value) (M : List (Int × Int)) : Prop where
  ent : ∀ (args : Array Value) (w : World), (callFunc k args).run Tryz.prog w = .ok (.enter k args) w
  call : ∀ (x : Tm) (i : Nat) (w : World), S x → AtT rk.length M H i x → n ≤ w.heap.size → I w → Calls Tryz.prog k (fs.push (.agg #[.pointer (some ⟨bp, 0, none⟩), .int .i64 (i : Int)]) ++ cv) w fun e w' => e = .returned (.bool (q x)) ∧ KeepsC (· = bf) w w' ∧ I w'
  stay : ∀ w w', I w → Keeps (· < n) w w' → I w'
  pr : ∀ w, I w → PairR w bp P rk pc A H hc ml (.map (some bf))
section
variable {k : FuncId} {fs cv : Array Value} {q : Tm → Bool} {S : Tm → Prop} {I : World → Prop} {n bp bf : Nat} {P : Option Addr} {rk : List Int} {pc : Nat} {A : Option Addr} {H : List Hd} {hc : Nat} {ml : Value} {M : List (Int × Int)}
set_option maxHeartbeats 2000000 in
theorem lpoSome_any (hN : HldC k fs cv q S I n bp bf P rk pc A H hc ml M) (hbf : bf < n) (hH : H.length ≤ 1099511627776) (xs : List Tm) (i j : Nat) (w : World) (hat : AtL rk.length M H i j xs) (hS : ∀ x ∈ xs, S x) (hn : n ≤ w.heap.size) (hI : I w) :
    Calls Tryz.prog 129 #[.agg #[.pointer (some ⟨bp, 0, none⟩), .int .i64 (i : Int), .int .i64 (j : Int)], .func (.func k) fs cv] w fun e w' => e = .returned (.bool (xs.any q)) ∧ KeepsC (· = bf) w w' ∧ I w' := by
  have q0 := heap_alloc_new w (.cells #[.pointer (some ⟨bp, 0, none⟩), .int .i64 (i : Int), .int .i64 (j : Int)] 177)
  obtain ⟨W, hW⟩ : ∃ W, w.alloc (.cells #[.pointer (some ⟨bp, 0, none⟩), .int .i64 (i : Int), .int .i64 (j : Int)] 177) = W := ⟨_, rfl⟩
  have hB : Below w.heap.size w W := by rw [← hW]; exact (Below.refl _ _).alloc (Nat.le_refl _) _
  rw [hW] at q0
  have hIW : I W := hN.stay w W hI ((Keeps.of_below hB).mono fun _ hg => Nat.lt_of_lt_of_le hg hn)
  have hWb : w.heap.size < W.heap.size := (Array.getElem?_eq_some_iff.1 q0).1
  have H0 : Hid (∃ (ys : List Tm) (i' : Nat), W.heap[w.heap.size]? = some (.cells #[.pointer (some ⟨bp, 0, none⟩), .int .i64 (i' : Int), .int .i64 (j : Int)] 177) ∧ AtL rk.length M H i' j ys ∧ xs.any q = ys.any q ∧ (∀ x ∈ ys, S x) ∧ I W ∧ ys.length ≤ xs.length) :=
    Lib.hid ⟨xs, i, q0, hat, rfl, hS, hIW, Nat.le_refl _⟩
  have hK0 : KeepsC (· = bf) w W := KeepsC.of_below hB
  have hent := hN.ent
  have HN := Lib.hid hN
  have HW := Lib.hid hW
  clear hW hat hS hI hIW q0 hB hN
  go_enter Tryz.func129, Tryz.ntmps129
  go_upto_region 1 with fail
  rw [HW.out]
  go_loopg [] xs.length (fun gk wr => KeepsC (· = bf) w wr ∧ Hid (∃ (ys : List Tm) (i' : Nat), wr.heap[w.heap.size]? = some (.cells #[.pointer (some ⟨bp, 0, none⟩), .int .i64 (i' : Int), .int .i64 (j : Int)] 177) ∧ AtL rk.length M H i' j ys ∧ xs.any q = ys.any q ∧ (∀ x ∈ ys, S x) ∧ I wr ∧ ys.length ≤ gk))
  case atStart => exact ⟨hK0, H0⟩
  case round =>
    obtain ⟨hKr, Hr⟩ := hrel
    obtain ⟨ys, i', r0, hat, hev, hS, hI, hsz⟩ := Hr.out
    obtain ⟨y0, y1, y2, f0, f1, f2⟩ := cells3 r0
    have hrb : w.heap.size < wr.heap.size := (Array.getElem?_eq_some_iff.1 r0).1
    have hnr : n ≤ wr.heap.size := Nat.le_trans hn hKr.size
    match ys, hat, hev, hS, hsz with
    | [], hat, hev, _, _ =>
      have hji := hat.empty
      have hE := lpoEmpty_any (i' : Int) (j : Int) (.pointer (some ⟨bp, 0, none⟩)) wr
      rw [decide_eq_true (show (j : Int) ≤ (i' : Int) by omega)] at hE
      have HE := Lib.hid hE
      have Hev := Lib.hid hev
      have HI := Lib.hid hI
      clear hE hev hat hji Hr r0 hI
      go_wp2_with (first
        | (go_at_call 126; go_must ((with_reducible refine HE.out.mono ?_); rintro e w1 ⟨rfl, hb1⟩))
        | fail)
      go_ret
      exact ⟨ret_bool (by rw [Hev.out]; rfl), hKr.trans (KeepsC.of_below hb1), HN.out.stay _ _ HI.out ((Keeps.of_below hb1).mono fun _ hg => Nat.lt_of_lt_of_le hg hnr)⟩
    | y :: ys, hat, hev, hS, hsz =>
      have hy := hat.first
      have hrest := hat.rest
      have hle := hat.le
      have hzy := size_pos y
      have hle2 := hrest.le
      rw [sizes] at hle
      have hE := lpoEmpty_any (i' : Int) (j : Int) (.pointer (some ⟨bp, 0, none⟩)) wr
      rw [decide_eq_false (show ¬ (j : Int) ≤ (i' : Int) by omega)] at hE
      have HE := Lib.hid hE
      have Hev := Lib.hid hev
      have HI := Lib.hid hI
      have Hr0 := Lib.hid r0
      have Hy := Lib.hid hy
      have Hrest := Lib.hid hrest
      have HS := Lib.hid hS
      have hlt : i' < j := by omega
      have hj64 : j ≤ 1099511627776 := by omega
      have hys : ys.length < gk := by rw [List.length_cons] at hsz; omega
      have hiy : i' + y.size ≤ 1099511627776 := by omega
      clear hE hev hat Hr r0 hI hy hrest hS hsz hle hle2
      cases hq : q y with
      | true =>
        have hfin := Lib.hid (show xs.any q = true by rw [Hev.out, List.any_cons, hq]; rfl)
        have Hq := Lib.hid hq
        clear hq
        go_wp2_with (first
          | (go_at_call 126; go_must ((with_reducible refine HE.out.mono ?_); rintro e w1 ⟨rfl, hb1⟩; obtain ⟨z0, z1, z2, _, _, _⟩ := cells3 ((hb1.block _ hrb).trans Hr0.out)))
          | (go_at_call 127; go_must (refine (lpoFirst_any _ _ w1).mono ?_; rintro e w2 ⟨rfl, hb2⟩; have hB2 := hb1.trans (hb2.mono hb1.size); have hC := HN.out.call y i' w2 (HS.out y (by simp)) Hy.out (Nat.le_trans hnr hB2.size) (HN.out.stay _ _ HI.out ((Keeps.of_below hB2).mono fun _ hg => Nat.lt_of_lt_of_le hg hnr)); rw [Hq.out] at hC; have HC := Lib.hid hC; clear hC))
          | ((with_reducible refine HC.out.mono ?_); go_must (rintro e w3 ⟨rfl, hk3, hI3⟩; have HI3 := Lib.hid hI3; clear hI3))
          | fail)
        go_ret
        exact ⟨ret_bool hfin.out.symm, (hKr.trans (KeepsC.of_below hB2)).trans hk3, HI3.out⟩
      | false =>
        have hfin := Lib.hid (show xs.any q = ys.any q by rw [Hev.out, List.any_cons, hq]; rfl)
        have Hq := Lib.hid hq
        clear hq
        go_wp2_with (first
          | (go_at_call 126; go_must ((with_reducible refine HE.out.mono ?_); rintro e w1 ⟨rfl, hb1⟩; obtain ⟨z0, z1, z2, _, _, _⟩ := cells3 ((hb1.block _ hrb).trans Hr0.out)))
          | (go_at_call 127; go_must (refine (lpoFirst_any _ _ w1).mono ?_; rintro e w2 ⟨rfl, hb2⟩; have hB2 := hb1.trans (hb2.mono hb1.size); have hC := HN.out.call y i' w2 (HS.out y (by simp)) Hy.out (Nat.le_trans hnr hB2.size) (HN.out.stay _ _ HI.out ((Keeps.of_below hB2).mono fun _ hg => Nat.lt_of_lt_of_le hg hnr)); rw [Hq.out] at hC; have HC := Lib.hid hC; clear hC))
          | ((with_reducible refine HC.out.mono ?_); go_must (rintro e w3 ⟨rfl, hk3, hI3⟩; have hk13 := (KeepsC.of_below (C := (· = bf)) hB2).trans hk3; have r3 := (hk13.block hrb (show ¬ w.heap.size = bf by omega)).trans Hr0.out; obtain ⟨v0, v1, v2, g0, g1, g2⟩ := cells3 r3; have hR := lpoRest_any (to' := j) w3 (HN.out.pr w3 hI3) Hy.out.top' (show I64 ((i' : Int) + (y.size : Int)) from ⟨by omega, by omega⟩) hlt; have HR := Lib.hid hR; have HI3 := Lib.hid hI3; have R3 := Lib.hid r3; have hs3 : w.heap.size < w3.heap.size := Nat.lt_of_lt_of_le hrb hk13.size; clear hI3 hR r3))
          | (go_at_call 128; go_must ((with_reducible refine HR.out.mono ?_); rintro e w4 ⟨rfl, hb4⟩; have R4 := Lib.hid ((hb4.block _ hs3).trans R3.out); obtain ⟨u0, u1, u2, l0, l1, l2⟩ := cells3 R4.out))
          | fail)
        go_roundg ys.length
        case measure => exact hys
        case rel =>
          have hk4 : KeepsC (· = bf) w w4 := (hKr.trans hk13).trans (KeepsC.of_below hb4)
          have hset := set3 (x' := .pointer (some ⟨bp, 0, none⟩)) (y' := .int .i64 ((i' : Int) + (y.size : Int))) (z' := .int .i64 (j : Int)) R4.out
          refine ⟨((hk4.set (p := ⟨w.heap.size, 0, none⟩) (Nat.le_refl _) _).set (p := ⟨w.heap.size, 1, none⟩) (Nat.le_refl _) _).set (p := ⟨w.heap.size, 2, none⟩) (Nat.le_refl _) _, Lib.hid ⟨ys, i' + y.size, ?_, Hrest.out, hfin.out, fun x hx => HS.out x (by simp [hx]), ?_, Nat.le_refl _⟩⟩
          · rw [Int.natCast_add]; exact hset
          · refine HN.out.stay w3 _ HI3.out ?_
            have h1 : Below w3.heap.size w3 w4 := hb4
            have h2 := below3 (x := .pointer (some ⟨bp, 0, none⟩)) (y := .int .i64 ((i' : Int) + (y.size : Int))) (z := .int .i64 (j : Int)) (h1.mono (show n ≤ w3.heap.size by omega)) (show n ≤ w.heap.size from hn)
            exact Keeps.of_below h2
end
end Go.Proofs.YthgglobfkkcdgaaGreatDoor
namespace Go.Proofs.YthgglobfkkcdgaaGreatDoor
open Go.RowKit Go.Shelf Go.Maps
set_option maxRecDepth 100000
section
variable {k : FuncId} {fs cv : Array Value} {q : Tm → Bool} {S : Tm → Prop} {I : World → Prop} {n bp bf : Nat} {P : Option Addr} {rk : List Int} {pc : Nat} {A : Option Addr} {H : List Hd} {hc : Nat} {ml : Value} {M : List (Int × Int)}
set_option maxHeartbeats 1000000 in
theorem lpoEach1_any (hN : HldC k fs cv q S I n bp bf P rk pc A H hc ml M) (vb : Nat) (hvf : vb ≠ bf) (x : Tm) (i : Nat) (w : World) (hS : S x) (hat : AtT rk.length M H i x) (hn : n ≤ w.heap.size) (hI : I w) (hv : Boxed w vb 94 (.func (.func k) fs cv)) :
    Calls Tryz.prog 136 #[.agg #[.pointer (some ⟨bp, 0, none⟩), .int .i64 (i : Int)], .pointer (some ⟨vb, 0, none⟩)] w fun e w' => e = .returned (.bool (!q x)) ∧ KeepsC (· = bf) w w' ∧ (I w' ∧ Boxed w' vb 94 (.func (.func k) fs cv)) := by
  have q0 := heap_alloc_new w (.cells #[.pointer (some ⟨bp, 0, none⟩), .int .i64 (i : Int)] 91)
  obtain ⟨W, hW⟩ : ∃ W, w.alloc (.cells #[.pointer (some ⟨bp, 0, none⟩), .int .i64 (i : Int)] 91) = W := ⟨_, rfl⟩
  have hB : Below w.heap.size w W := by rw [← hW]; exact (Below.refl _ _).alloc (Nat.le_refl _) _
  rw [hW] at q0
  obtain ⟨x0, x1, _, _⟩ := cells_two q0
  have hvW : Boxed W vb _ _ := (hB.block _ hv.lt).trans hv
  have y0 := hvW.cell
  have hlt := hvW.lt
  have HC := Lib.hid (hN.call x i W hS hat (Nat.le_trans hn hB.size) (hN.stay w W hI ((Keeps.of_below hB).mono fun _ hg => Nat.lt_of_lt_of_le hg hn)))
  have hent := hN.ent
  have HvW := Lib.hid hvW
  have HW := Lib.hid hW
  clear hW q0 hN hI hv hvW
  go_enter Tryz.func136, Tryz.ntmps136
  go_upto_region 1 with fail
  rw [HW.out]
  go_wp2_with (first
    | ((with_reducible refine HC.out.mono ?_); go_must (rintro e w1 ⟨rfl, hk1, hI1⟩; have hI1 := Lib.hid hI1))
    | fail)
  go_ret
  exact ⟨rfl, (KeepsC.of_below hB).trans hk1, hI1.out, (hk1.block hlt hvf).trans HvW.out⟩
theorem lpoEach1_hld (hN : HldC k fs cv q S I n bp bf P rk pc A H hc ml M) (vb : Nat) (hvf : vb ≠ bf) (hnv : n ≤ vb) :
    HldC 136 #[] #[.pointer (some ⟨vb, 0, none⟩)] (fun x => !q x) S (fun w => I w ∧ Boxed w vb 94 (.func (.func k) fs cv)) (vb + 1) bp bf P rk pc A H hc ml M where
  ent := fun args w => by rfl
  call := fun x i w hS hat hn hI => lpoEach1_any hN vb hvf x i w hS hat (by omega) hI.1 hI.2
  stay := fun w w' hI hk => ⟨hN.stay w w' hI.1 (hk.mono fun g hg => by show g < vb + 1; omega), (hk.block vb (Nat.lt_succ_self _)).trans hI.2⟩
  pr := fun w hI => hN.pr w hI.1
@[local go_sem] theorem run_store_part {P : Program} {w : World} {a : Addr} {m : Mode} (f : Fn) (ts cs : Array Value) : (store a (.func f ts cs) m).run P w = stored P w a (.func f ts cs) m := run_store P w a _ m rfl
set_option maxHeartbeats 1000000 in
theorem lpoEach_any (hN : HldC k fs cv q S I n bp bf P rk pc A H hc ml M) (hbf : bf < n) (hH : H.length ≤ 1099511627776) (xs : List Tm) (i j : Nat) (w : World) (hat : AtL rk.length M H i j xs) (hS : ∀ x ∈ xs, S x) (hn : n ≤ w.heap.size) (hI : I w) :
    Calls Tryz.prog 124 #[.agg #[.pointer (some ⟨bp, 0, none⟩), .int .i64 (i : Int), .int .i64 (j : Int)], .func (.func k) fs cv] w fun e w' => e = .returned (.bool (xs.all q)) ∧ KeepsC (· = bf) w w' ∧ I w' := by
  obtain ⟨q0, q1⟩ := heap2 w (.cells #[.pointer (some ⟨bp, 0, none⟩), .int .i64 (i : Int), .int .i64 (j : Int)] 177) (.cells #[.func (.func k) fs cv] 94)
  obtain ⟨W, hW⟩ : ∃ W, (w.alloc (.cells #[.pointer (some ⟨bp, 0, none⟩), .int .i64 (i : Int), .int .i64 (j : Int)] 177)).alloc (.cells #[.func (.func k) fs cv] 94) = W := ⟨_, rfl⟩
  have hB : Below w.heap.size w W := by rw [← hW]; exact ((Below.refl _ _).alloc (Nat.le_refl _) _).alloc (by simp) _
  rw [hW] at q0 q1
  have hWz : W.heap.size = w.heap.size + 1 + 1 := by rw [← hW]; simp
  obtain ⟨x0, x1, x2, _, _, _⟩ := cells3 q0
  have hIW := hN.stay w W hI ((Keeps.of_below hB).mono fun _ hg => Nat.lt_of_lt_of_le hg hn)
  have hal : xs.all q = !xs.any fun x => !q x := List.all_eq_not_any_not
  have HC := Lib.hid (lpoSome_any (lpoEach1_hld hN (w.heap.size + 1) (by omega) (by omega)) (by omega) hH xs i j W hat hS (by omega) ⟨hIW, q1⟩)
  have Hal := Lib.hid hal
  have HW := Lib.hid hW
  clear hW q0 q1 hN hI hIW hal hWz
  go_enter Tryz.func124, Tryz.ntmps124
  go_upto_region 1 with fail
  rw [HW.out]
  go_wp2_with (first
    | (go_at_call 129; (with_reducible refine HC.out.mono ?_); go_must (rintro e w1 ⟨rfl, hk1, hI1⟩; have hI1 := Lib.hid hI1))
    | fail)
  go_ret
  exact ⟨ret_bool Hal.out.symm, (KeepsC.of_below hB).trans hk1, hI1.out.1⟩
end
end Go.Proofs.YthgglobfkkcdgaaGreatDoor
namespace Go.Proofs.YthgglobfkkcdgaaGreatDoor
open Go.RowKit
set_option maxRecDepth 20000
section
variable {R : Nat} {M : List (Int × Int)}
mutual
theorem hs_var (hM : M.Nodup) {t : Tm} (ht : OkT R M t) (hv : t.fn < 0) : ∀ s : Tm, OkT R M s → (hsT R M s).any (hdB (topH R M t)) = decide (0 < ofT t.fn s)
  | .node f xs, hs => by
    have h1 : hdB (topH R M t) ⟨f, ((Tm.node f xs).size : Int), numO R M (.node f xs)⟩ = decide (f = t.fn) := by
      have h0 := topH_same hM ht hs
      change hdB (topH R M t) ⟨f, ((Tm.node f xs).size : Int), numO R M (.node f xs)⟩ = _ at h0
      rw [h0, decide_eq_decide, cmp_zero_iff]
      constructor
      · intro e; rw [e]; rfl
      · intro e
        have e1 := vn_var ht.vn hv
        have e2 := vn_var hs.vn (show (Tm.node f xs).fn < 0 by rw [Tm.fn, e]; exact hv)
        rw [e1, e2]
        show Tm.node t.fn [] = Tm.node f []
        rw [e]
    rw [hsT, List.any_cons, h1, hsL_var hM ht hv xs fun x hx => hs.arg hx, ofT, ← Bool.decide_or]
    rw [decide_eq_decide]
    by_cases e : f = t.fn
    · rw [if_pos e]; exact ⟨fun _ => by omega, fun _ => .inl e⟩
    · rw [if_neg e, Nat.zero_add]; exact ⟨fun h => h.resolve_left e, .inr⟩
theorem hsL_var (hM : M.Nodup) {t : Tm} (ht : OkT R M t) (hv : t.fn < 0) : ∀ xs : List Tm, (∀ x ∈ xs, OkT R M x) → (hsL R M xs).any (hdB (topH R M t)) = decide (0 < ofL t.fn xs)
  | [], _ => by rw [hsL, ofL]; rfl
  | x :: xs, h => by
    rw [hsL, List.any_append, hs_var hM ht hv x (h x (by simp)), hsL_var hM ht hv xs fun y hy => h y (by simp [hy]), ofL, ← Bool.decide_or, decide_eq_decide]
    omega
end
theorem AtT.part {H : List Hd} {i : Nat} {t : Tm} (h : AtT R M H i t) : (H.drop i).take t.size = hsT R M t := by
  obtain ⟨pre, post, rfl, rfl⟩ := h
  rw [List.append_assoc, List.drop_left, ← hsT_len (R := R) (M := M) t, List.take_left]
end
end Go.Proofs.YthgglobfkkcdgaaGreatDoor
namespace Go.Proofs.YthgglobfkkcdgaaGreatDoor
open Go.RowKit Go.Shelf Go.Maps
set_option maxRecDepth 100000
section
variable {n bp bf : Nat} {P : Option Addr} {rk : List Int} {pc : Nat} {A : Option Addr} {H : List Hd} {hc : Nat} {ml : Value} {M : List (Int × Int)}
def AbvAt (n bp bf : Nat) (P : Option Addr) (rk : List Int) (pc : Nat) (A : Option Addr) (H : List Hd) (hc : Nat) (ml : Value) (M : List (Int × Int)) (m : Nat) : Prop :=
  ∀ (s t : Tm) (i j : Nat) (w : World), s.size + t.size ≤ m → OkT rk.length M s → OkT rk.length M t → AtT rk.length M H i s → AtT rk.length M H j t → FdW w n bp bf P rk pc A H hc ml (fdF rk rk.length M) →
    Calls Tryz.prog 42 #[.agg #[.pointer (some ⟨bp, 0, none⟩), .int .i64 (i : Int)], .agg #[.pointer (some ⟨bp, 0, none⟩), .int .i64 (j : Int)]] w fun e w' => e = .returned (.bool (lpT rk s t)) ∧ KeepsC (· = bf) w w' ∧ FdW w' n bp bf P rk pc A H hc ml (fdF rk rk.length M)
theorem AbvAt.hld {m : Nat} (h : AbvAt n bp bf P rk pc A H hc ml M m) {s : Tm} {i : Nat} (hs : OkT rk.length M s) (hat : AtT rk.length M H i s) :
    HldC 42 #[.agg #[.pointer (some ⟨bp, 0, none⟩), .int .i64 (i : Int)]] #[] (lpT rk s) (fun x => OkT rk.length M x ∧ s.size + x.size ≤ m) (fun w => FdW w n bp bf P rk pc A H hc ml (fdF rk rk.length M)) n bp bf P rk pc A H hc ml M where
  ent := fun args w => by rfl
  call := fun x j w hS hx _ hI => h s x i j w hS.2 hs hS.1 hat hx hI
  stay := fun w w' hI hk => hI.stay hk
  pr := fun w hI => hI.pr
set_option maxHeartbeats 1000000 in
theorem lpoReached_any {m : Nat} (h : AbvAt n bp bf P rk pc A H hc ml M m) (hM : M.Nodup) {x t : Tm} {i j : Nat} (w : World) (hx : OkT rk.length M x) (ht : OkT rk.length M t) (hix : AtT rk.length M H i x) (hjt : AtT rk.length M H j t) (hz : x.size + t.size ≤ m) (hI : FdW w n bp bf P rk pc A H hc ml (fdF rk rk.length M)) :
    Calls Tryz.prog 130 #[.agg #[.pointer (some ⟨bp, 0, none⟩), .int .i64 (j : Int)], .agg #[.pointer (some ⟨bp, 0, none⟩), .int .i64 (i : Int)]] w fun e w' => e = .returned (.bool (decide (cmpT x t = 0) || lpT rk x t)) ∧ KeepsC (· = bf) w w' ∧ FdW w' n bp bf P rk pc A H hc ml (fdF rk rk.length M) := by
  obtain ⟨q0, q1⟩ := heap2 w (.cells #[.pointer (some ⟨bp, 0, none⟩), .int .i64 (j : Int)] 91) (.cells #[.pointer (some ⟨bp, 0, none⟩), .int .i64 (i : Int)] 91)
  obtain ⟨W, hW⟩ : ∃ W, (w.alloc (.cells #[.pointer (some ⟨bp, 0, none⟩), .int .i64 (j : Int)] 91)).alloc (.cells #[.pointer (some ⟨bp, 0, none⟩), .int .i64 (i : Int)] 91) = W := ⟨_, rfl⟩
  have hB : Below w.heap.size w W := by rw [← hW]; exact ((Below.refl _ _).alloc (Nat.le_refl _) _).alloc (by simp) _
  rw [hW] at q0 q1
  have hlt := (Array.getElem?_eq_some_iff.1 q1).1
  obtain ⟨x0, x1, _, _⟩ := cells_two q0
  obtain ⟨y0, y1, _, _⟩ := cells_two q1
  have hIW := hI.on hB
  have hsm := lpoSame_any W hIW.pr hix.top' hjt.top'
  rw [topH_same hM hx ht] at hsm
  have HW := Lib.hid hW
  have HI := Lib.hid hIW
  have HA : Hid (∀ w1, FdW w1 n bp bf P rk pc A H hc ml (fdF rk rk.length M) → Calls Tryz.prog 42 #[.agg #[.pointer (some ⟨bp, 0, none⟩), .int .i64 (i : Int)], .agg #[.pointer (some ⟨bp, 0, none⟩), .int .i64 (j : Int)]] w1 fun e w' => e = .returned (.bool (lpT rk x t)) ∧ KeepsC (· = bf) w1 w' ∧ FdW w' n bp bf P rk pc A H hc ml (fdF rk rk.length M)) := Lib.hid fun w1 h1 => h x t i j w1 hz hx ht hix hjt h1
  have HQ0 := Lib.hid q0
  have HQ1 := Lib.hid q1
  clear hW q0 q1 hI hIW h hix hjt
  cases hc0 : decide (cmpT x t = 0) with
  | true =>
    rw [hc0] at hsm
    have Hsm := Lib.hid hsm
    clear hsm hc0
    go_enter Tryz.func130, Tryz.ntmps130
    go_upto_region 1 with fail
    rw [HW.out]
    go_wp2_with (first
      | (go_at_call 41; (with_reducible refine Hsm.out.mono ?_); go_must (rintro e w1 ⟨rfl, hb1⟩))
      | fail)
    go_ret
    exact ⟨rfl, (KeepsC.of_below hB).trans (KeepsC.of_below hb1), HI.out.on hb1⟩
  | false =>
    rw [hc0] at hsm
    have Hsm := Lib.hid hsm
    clear hsm hc0
    go_enter Tryz.func130, Tryz.ntmps130
    go_upto_region 1 with fail
    rw [HW.out]
    go_wp2_with (first
      | (go_at_call 41; (with_reducible refine Hsm.out.mono ?_); go_must (rintro e w1 ⟨rfl, hb1⟩; obtain ⟨u0, u1, _, _⟩ := cells_two ((hb1.block _ (show w.heap.size < W.heap.size by omega)).trans HQ0.out); obtain ⟨v0, v1, _, _⟩ := cells_two ((hb1.block _ hlt).trans HQ1.out); have HI1 := Lib.hid (HI.out.on hb1)))
      | (go_at_call 42; (with_reducible refine (HA.out w1 HI1.out).mono ?_); go_must (rintro e w2 ⟨rfl, hk2, hI2⟩; have HI2 := Lib.hid hI2; clear hI2))
      | fail)
    go_ret
    exact ⟨rfl, ((KeepsC.of_below hB).trans (KeepsC.of_below hb1)).trans hk2, HI2.out⟩
theorem AbvAt.hldR {m : Nat} (h : AbvAt n bp bf P rk pc A H hc ml M m) (hM : M.Nodup) {t : Tm} {j : Nat} (ht : OkT rk.length M t) (hjt : AtT rk.length M H j t) :
    HldC 130 #[.agg #[.pointer (some ⟨bp, 0, none⟩), .int .i64 (j : Int)]] #[] (fun x => decide (cmpT x t = 0) || lpT rk x t) (fun x => OkT rk.length M x ∧ x.size + t.size ≤ m) (fun w => FdW w n bp bf P rk pc A H hc ml (fdF rk rk.length M)) n bp bf P rk pc A H hc ml M where
  ent := fun args w => by rfl
  call := fun x i w hS hx _ hI => lpoReached_any h hM w hS.1 ht hx hjt hS.2 hI
  stay := fun w w' hI hk => hI.stay hk
  pr := fun w hI => hI.pr
set_option maxHeartbeats 2000000 in
theorem lpoOutranks_any {m : Nat} (h : AbvAt n bp bf P rk pc A H hc ml M m) (hH : H.length ≤ 1099511627776) {s t : Tm} {i j : Nat} (w : World) (hs : OkT rk.length M s) (ht : OkT rk.length M t) (his : AtT rk.length M H i s) (hjt : AtT rk.length M H j t) (hz : s.size + t.size ≤ m + 1) (hI : FdW w n bp bf P rk pc A H hc ml (fdF rk rk.length M)) :
    Calls Tryz.prog 103 #[.agg #[.pointer (some ⟨bp, 0, none⟩), .int .i64 (i : Int)], .agg #[.pointer (some ⟨bp, 0, none⟩), .int .i64 (j : Int)]] w fun e w' => e = .returned (.bool (outB rk s t)) ∧ KeepsC (· = bf) w w' ∧ FdW w' n bp bf P rk pc A H hc ml (fdF rk rk.length M) := by
  obtain ⟨q0, q1⟩ := heap2 w (.cells #[.pointer (some ⟨bp, 0, none⟩), .int .i64 (i : Int)] 91) (.cells #[.pointer (some ⟨bp, 0, none⟩), .int .i64 (j : Int)] 91)
  obtain ⟨W, hW⟩ : ∃ W, (w.alloc (.cells #[.pointer (some ⟨bp, 0, none⟩), .int .i64 (i : Int)] 91)).alloc (.cells #[.pointer (some ⟨bp, 0, none⟩), .int .i64 (j : Int)] 91) = W := ⟨_, rfl⟩
  have hB : Below w.heap.size w W := by rw [← hW]; exact ((Below.refl _ _).alloc (Nat.le_refl _) _).alloc (by simp) _
  rw [hW] at q0 q1
  have hlt := (Array.getElem?_eq_some_iff.1 q1).1
  obtain ⟨x0, x1, _, _⟩ := cells_two q0
  obtain ⟨y0, y1, _, _⟩ := cells_two q1
  have hIW := hI.on hB
  have hl0 := hI.nl
  have hl1 := hI.lf
  have hI' : ∀ y : LatF W bf (fun w => FdW w n bp bf P rk pc A H hc ml (fdF rk rk.length M)), FdW y.w n bp bf P rk pc A H hc ml (fdF rk rk.length M) := fun y => y.i hIW
  have hst : ∀ a b : World, FdW a n bp bf P rk pc A H hc ml (fdF rk rk.length M) → Below a.heap.size a b → FdW b n bp bf P rk pc A H hc ml (fdF rk rk.length M) := fun a b h hb => h.on hb
  have hjl := hjt.lt
  have H1 : Hid (∀ y : LatF W bf (fun w => FdW w n bp bf P rk pc A H hc ml (fdF rk rk.length M)), Calls Tryz.prog 122 #[.agg #[.pointer (some ⟨bp, 0, none⟩), .int .i64 (i : Int)], .agg #[.pointer (some ⟨bp, 0, none⟩), .int .i64 (j : Int)]] y.w fun e w' => e = .returned (.bool (higB rk s t)) ∧ Below y.w.heap.size y.w w') := Lib.hid fun y => lpoHigher_any y.w (hI' y).pr his.top' hjt.top' hs.fn_lt ht.fn_lt
  have H2 : Hid (∀ y : LatF W bf (fun w => FdW w n bp bf P rk pc A H hc ml (fdF rk rk.length M)), Calls Tryz.prog 123 #[.agg #[.pointer (some ⟨bp, 0, none⟩), .int .i64 (j : Int)]] y.w fun e w' => e = .returned (.agg #[.pointer (some ⟨bp, 0, none⟩), .int .i64 ((j : Int) + 1), .int .i64 ((j : Int) + (t.size : Int))]) ∧ Below y.w.heap.size y.w w') := Lib.hid fun y => lpoArgs_any y.w (hI' y).pr hjt.top' ⟨by show _ ≤ (j : Int) + (t.size : Int); omega, by show (j : Int) + (t.size : Int) ≤ _; omega⟩
  have H3 : Hid (∀ y : LatF W bf (fun w => FdW w n bp bf P rk pc A H hc ml (fdF rk rk.length M)), Calls Tryz.prog 124 #[.agg #[.pointer (some ⟨bp, 0, none⟩), .int .i64 ((j : Int) + 1), .int .i64 ((j : Int) + (t.size : Int))], .func (.func 42) #[.agg #[.pointer (some ⟨bp, 0, none⟩), .int .i64 (i : Int)]] #[]] y.w fun e w' => e = .returned (.bool (t.args.all fun y => lpT rk s y)) ∧ KeepsC (· = bf) y.w w' ∧ (FdW y.w n bp bf P rk pc A H hc ml (fdF rk rk.length M) → FdW w' n bp bf P rk pc A H hc ml (fdF rk rk.length M))) := Lib.hid fun y =>
    (lpoEach_any (h.hld hs his) hl1 hH t.args (j + 1) (j + t.size) y.w hjt.args (fun x hx => ⟨ht.arg hx, by have := size_args hx; omega⟩) (hI' y).nl (hI' y)).mono fun e w' ⟨h1, h2, h3⟩ => ⟨h1, h2, fun _ => h3⟩
  have m0 : ∀ y : LatF W bf (fun w => FdW w n bp bf P rk pc A H hc ml (fdF rk rk.length M)), y.w.cell? ⟨w.heap.size, 0, none⟩ = some (.pointer (some ⟨bp, 0, none⟩)) := fun y => y.cell (by omega) (by omega) x0
  have m1 : ∀ y : LatF W bf (fun w => FdW w n bp bf P rk pc A H hc ml (fdF rk rk.length M)), y.w.cell? ⟨w.heap.size, 1, none⟩ = some (.int .i64 (i : Int)) := fun y => y.cell (by omega) (by omega) x1
  have m2 : ∀ y : LatF W bf (fun w => FdW w n bp bf P rk pc A H hc ml (fdF rk rk.length M)), y.w.cell? ⟨w.heap.size + 1, 0, none⟩ = some (.pointer (some ⟨bp, 0, none⟩)) := fun y => y.cell (by omega) (by omega) y0
  have m3 : ∀ y : LatF W bf (fun w => FdW w n bp bf P rk pc A H hc ml (fdF rk rk.length M)), y.w.cell? ⟨w.heap.size + 1, 1, none⟩ = some (.int .i64 (j : Int)) := fun y => y.cell (by omega) (by omega) y1
  have hmf : ∀ (fn : Fn) (first cap : Array Value) (w : World), (Instr.makeFunc fn first cap).run Tryz.prog w = .ok (.func fn first cap) w := fun _ _ _ _ => rfl
  have HW := Lib.hid hW
  have HI := Lib.hid hIW
  have HK := Lib.hid (KeepsC.of_below (C := (· = bf)) hB)
  cases hh : higB rk s t with
  | false =>
    have hfin := Lib.hid (show outB rk s t = false by unfold outB; rw [hh]; rfl)
    rw [hh] at H1
    clear hW q0 q1 hI hIW h his hjt hh x0 x1 y0 y1 hlt hjl
    go_enter Tryz.func103, Tryz.ntmps103
    go_upto_region 1 with fail
    rw [HW.out]
    refine wp_region_lat W bf (fun w => FdW w n bp bf P rk pc A H hc ml (fdF rk rk.length M)) (by kernel_rfl) (by kernel_rfl) (KeepsC.of_below (bl_drewN (Below.refl _ _) 1)) (fun h => h.on (bl_drewN (Below.refl _ _) 1)) ?_
    repeat (go_big_quiet_step (first
      | (go_at_call 122; with_reducible refine calls_latB _ hst (H1.out _))
      | fail))
    refine wpQuiet_nil ?_
    rintro _ ⟨z, rfl⟩
    clear m0 m1 m2 m3
    go_wp2
    go_ret
    exact ⟨ret_bool hfin.out.symm, HK.out.trans z.h, z.i HI.out⟩
  | true =>
    have hfin := Lib.hid (show outB rk s t = (t.args.all fun y => lpT rk s y) by unfold outB; rw [hh]; rfl)
    rw [hh] at H1
    obtain ⟨r, hr⟩ : ∃ r, (t.args.all fun y => lpT rk s y) = r := ⟨_, rfl⟩
    rw [hr] at H3 hfin
    clear hW q0 q1 hI hIW h his hjt hh x0 x1 y0 y1 hlt hjl hr
    go_enter Tryz.func103, Tryz.ntmps103
    go_upto_region 1 with fail
    rw [HW.out]
    refine wp_region_lat W bf (fun w => FdW w n bp bf P rk pc A H hc ml (fdF rk rk.length M)) (by kernel_rfl) (by kernel_rfl) (KeepsC.of_below (bl_drewN (Below.refl _ _) 1)) (fun h => h.on (bl_drewN (Below.refl _ _) 1)) ?_
    repeat (go_big_quiet_step (first
      | (go_at_call 122; with_reducible refine calls_latB _ hst (H1.out _))
      | (go_at_call 123; with_reducible refine calls_latB _ hst (H2.out _))
      | (go_at_call 124; with_reducible refine calls_latF _ (H3.out _))
      | fail))
    refine wpQuiet_nil ?_
    rintro _ ⟨z, rfl⟩
    clear m0 m1 m2 m3
    go_wp2
    go_ret
    exact ⟨ret_bool hfin.out.symm, HK.out.trans z.h, z.i HI.out⟩
end
end Go.Proofs.YthgglobfkkcdgaaGreatDoor
namespace Go.Proofs.YthgglobfkkcdgaaGreatDoor
open Go.RowKit Go.Shelf Go.Maps
set_option maxRecDepth 100000
theorem run_slice_heads (b off n c lo sz : Nat) (hz : 0 < sz) (h : lo + sz ≤ c) (w : World) : (Instr.slice 126 (.slice (some ⟨b, off, none⟩) n c) (some (.int .i64 (lo : Int))) (some (.int .i64 ((lo : Int) + (sz : Int)))) none).run Tryz.prog w = .ok (.slice (some ⟨b, off + lo * 3, none⟩) sz (c - lo)) w := by
  have h1 : ((lo : Int) + (sz : Int)).toNat = lo + sz := by omega
  simp [Instr.slice, Instr.sliceBounds, Instr.sliceBound, asIntOf, run_underlying Tryz.underlying126, go_sem]
  rw [if_pos ⟨by omega, by omega⟩, if_pos (by omega), if_neg (by omega), h1, Nat.add_sub_cancel_left]
def idxH (y : Hd) : Nat → List Hd → Int
  | _, [] => -1
  | k, x :: xs => if hdB y x then (k : Int) else idxH y (k + 1) xs
theorem idxH_any (y : Hd) : ∀ (xs : List Hd) (k : Nat), decide (0 ≤ idxH y k xs) = xs.any (hdB y)
  | [], k => by rw [idxH]; rfl
  | x :: xs, k => by
    rw [idxH, List.any_cons]
    by_cases h : hdB y x = true
    · rw [if_pos h, h, Bool.true_or, decide_eq_true (show (0 : Int) ≤ (k : Int) by omega)]
    · rw [if_neg h, idxH_any y xs (k + 1), Bool.eq_false_iff.2 h, Bool.false_or]
theorem idxH_drop {y : Hd} {xs : List Hd} {k : Nat} {x : Hd} (h : xs[k]? = some x) : idxH y k (xs.drop k) = if hdB y x then (k : Int) else idxH y (k + 1) (xs.drop (k + 1)) := by
  obtain ⟨h1, h2⟩ := List.getElem?_eq_some_iff.1 h
  rw [List.drop_eq_getElem_cons h1, h2, idxH]
def HdsAt (w : World) (b off : Nat) (hs : List Hd) : Prop := ∀ (i : Nat) (x : Hd), hs[i]? = some x → w.cell? ⟨b, off + i * 3, none⟩ = some (.int .i64 x.fn) ∧ w.cell? ⟨b, off + i * 3 + 1, none⟩ = some (.int .i64 x.sz) ∧ w.cell? ⟨b, off + i * 3 + 1 + 1, none⟩ = some (.int .i64 x.no)
set_option maxHeartbeats 1000000 in
theorem lpoIndex_any (b off c : Nat) (hs : List Hd) (y : Hd) (w : World) (hl : hs.length ≤ 1099511627776) (hb : b < w.heap.size) (hc : HdsAt w b off hs) :
    Calls Tryz.prog 135 #[.slice (some ⟨b, off, none⟩) hs.length c, .agg #[.int .i64 y.fn, .int .i64 y.sz, .int .i64 y.no]] w fun e w' => e = .returned (.int .i64 (idxH y 0 hs)) ∧ Below w.heap.size w w' := by
  obtain ⟨W, hW⟩ : ∃ W, w.alloc (.cells #[.int .i64 y.fn, .int .i64 y.sz, .int .i64 y.no] 130) = W := ⟨_, rfl⟩
  have q0 := heap_alloc_new w (.cells #[.int .i64 y.fn, .int .i64 y.sz, .int .i64 y.no] 130)
  have hB : Below w.heap.size w W := by rw [← hW]; exact (Below.refl _ _).alloc (Nat.le_refl _) _
  rw [hW] at q0
  obtain ⟨x0, x1, x2, _⟩ := cells3 q0
  have HC : Hid (HdsAt W b off hs) := Lib.hid fun i x hx => ⟨cell_on hB hb (hc i x hx).1, cell_on hB hb (hc i x hx).2.1, cell_on hB hb (hc i x hx).2.2⟩
  have HW := Lib.hid hW
  have Hq0 := Lib.hid q0
  have hbW : b < W.heap.size := Nat.lt_of_lt_of_le hb hB.size
  have HE0 : Hid (idxH y 0 hs = idxH y 0 (hs.drop 0)) := Lib.hid rfl
  clear hW hc q0
  go_enter Tryz.func135, Tryz.ntmps135
  go_upto_region 1 with fail
  rw [HW.out]
  go_upto_region 2 with fail
  go_loopw [8] (fun i wr => ∃ k : Nat, k ≤ hs.length ∧ i = .int .i64 (k : Int) ∧ Below W.heap.size W wr ∧ Hid (idxH y 0 hs = idxH y k (hs.drop k))) (fun i _ => hs.length - (intOf i).toNat)
  case atStart => exact ⟨0, Nat.zero_le _, rfl, Below.refl _ _, HE0⟩
  case round =>
    obtain ⟨k, hk, rfl, hBr, HE⟩ := hrel
    obtain ⟨z0, z1, z2, _⟩ := cells3 ((hBr.block _ (Array.getElem?_eq_some_iff.1 Hq0.out).1).trans Hq0.out)
    by_cases hlt : k < hs.length
    · obtain ⟨x, hx⟩ : ∃ x, hs[k]? = some x := ⟨_, List.getElem?_eq_getElem hlt⟩
      obtain ⟨c0, c1, c2⟩ := HC.out k x hx
      replace c0 := cell_on hBr hbW c0
      replace c1 := cell_on hBr hbW c1
      replace c2 := cell_on hBr hbW c2
      have hd := idxH_drop (y := y) hx
      have heq := run_eql_head y.fn y.sz y.no x.fn x.sz x.no
      cases hq : hdB y x with
      | true =>
        have hfin := Lib.hid (show idxH y 0 hs = (k : Int) by rw [HE.out, hd, hq]; rfl)
        rw [hq] at heq
        clear hd hx hq
        go_upto_region 4 with fail
        go_region
        go_wp2
        go_ret
        exact ⟨ret_int hfin.out.symm, (hB.trans (hBr.mono hB.size)).drew⟩
      | false =>
        have hfin := Lib.hid (show idxH y 0 hs = idxH y (k + 1) (hs.drop (k + 1)) by rw [HE.out, hd, hq]; rfl)
        rw [hq] at heq
        clear hd hx hq
        go_upto_region 4 with fail
        go_region
        go_wp2
        go_roundw
        case rel => exact ⟨k + 1, by omega, by go_num, hBr.drew, hfin⟩
        case measure => simp [intOf]; omega
    · obtain rfl : k = hs.length := by omega
      have hfin := Lib.hid (show idxH y 0 hs = -1 by rw [HE.out, List.drop_length, idxH])
      go_wp2
      go_ret
      exact ⟨ret_int hfin.out.symm, hB.trans (hBr.mono hB.size)⟩
set_option maxHeartbeats 1000000 in
theorem lpoContains0_any (b off c : Nat) (hs : List Hd) (y : Hd) (w : World) (hl : hs.length ≤ 1099511627776) (hb : b < w.heap.size) (hc : HdsAt w b off hs) :
    Calls Tryz.prog 120 #[.slice (some ⟨b, off, none⟩) hs.length c, .agg #[.int .i64 y.fn, .int .i64 y.sz, .int .i64 y.no]] w fun e w' => e = .returned (.bool (hs.any (hdB y))) ∧ Below w.heap.size w w' := by
  obtain ⟨W, hW⟩ : ∃ W, w.alloc (.cells #[.int .i64 y.fn, .int .i64 y.sz, .int .i64 y.no] 130) = W := ⟨_, rfl⟩
  have q0 := heap_alloc_new w (.cells #[.int .i64 y.fn, .int .i64 y.sz, .int .i64 y.no] 130)
  have hB : Below w.heap.size w W := by rw [← hW]; exact (Below.refl _ _).alloc (Nat.le_refl _) _
  rw [hW] at q0
  obtain ⟨x0, x1, x2, _⟩ := cells3 q0
  have HC := Lib.hid (lpoIndex_any b off c hs y W hl (Nat.lt_of_lt_of_le hb hB.size) fun i x hx => ⟨cell_on hB hb (hc i x hx).1, cell_on hB hb (hc i x hx).2.1, cell_on hB hb (hc i x hx).2.2⟩)
  have HE := Lib.hid (idxH_any y hs 0)
  obtain ⟨r, hr⟩ : ∃ r, idxH y 0 hs = r := ⟨_, rfl⟩
  rw [hr] at HC HE
  have HW := Lib.hid hW
  clear hW hc q0 hr
  go_enter Tryz.func120, Tryz.ntmps120
  go_upto_region 1 with fail
  rw [HW.out]
  go_wp2_with (first
    | (go_at_call 135; (with_reducible refine HC.out.mono ?_); go_must (rintro e w1 ⟨rfl, hb1⟩))
    | fail)
  go_ret
  exact ⟨ret_bool HE.out, hB.trans (hb1.mono hB.size)⟩
end Go.Proofs.YthgglobfkkcdgaaGreatDoor
namespace Go.Proofs.YthgglobfkkcdgaaGreatDoor
open Go.RowKit Go.Shelf Go.Maps
set_option maxRecDepth 100000
theorem AtT.hds {R : Nat} {M : List (Int × Int)} {H : List Hd} {i b off : Nat} {s : Tm} {w : World} (h : AtT R M H i s) (hc : ∀ (k : Nat) (x : Hd), H[k]? = some x → w.cell? ⟨b, off + k * 3, none⟩ = some (.int .i64 x.fn) ∧ w.cell? ⟨b, off + k * 3 + 1, none⟩ = some (.int .i64 x.sz) ∧ w.cell? ⟨b, off + k * 3 + 1 + 1, none⟩ = some (.int .i64 x.no)) : HdsAt w b (off + i * 3) (hsT R M s) := by
  intro k x hx
  have hl := (List.getElem?_eq_some_iff.1 hx).1
  rw [hsT_len] at hl
  rw [← h.part, List.getElem?_take, if_pos hl, List.getElem?_drop] at hx
  have := hc (i + k) x hx
  rw [show off + i * 3 + k * 3 = off + (i + k) * 3 by omega]
  exact this
section
variable {n bp bf : Nat} {P : Option Addr} {rk : List Int} {pc : Nat} {A : Option Addr} {H : List Hd} {hc : Nat} {ml : Value} {M : List (Int × Int)}
set_option maxHeartbeats 4000000 in
theorem lpoContains_any (hM : M.Nodup) (hH : H.length ≤ 1099511627776) {s t : Tm} {i j : Nat} (w : World) (hs : OkT rk.length M s) (ht : OkT rk.length M t) (his : AtT rk.length M H i s) (hjt : AtT rk.length M H j t) (hI : FdW w n bp bf P rk pc A H hc ml (fdF rk rk.length M)) :
    Calls Tryz.prog 102 #[.agg #[.pointer (some ⟨bp, 0, none⟩), .int .i64 (i : Int)], .agg #[.pointer (some ⟨bp, 0, none⟩), .int .i64 (j : Int)]] w fun e w' => e = .returned (.bool (contB s t)) ∧ KeepsC (· = bf) w w' ∧ FdW w' n bp bf P rk pc A H hc ml (fdF rk rk.length M) := by
  obtain ⟨q0, q1⟩ := heap2 w (.cells #[.pointer (some ⟨bp, 0, none⟩), .int .i64 (i : Int)] 91) (.cells #[.pointer (some ⟨bp, 0, none⟩), .int .i64 (j : Int)] 91)
  obtain ⟨W, hW⟩ : ∃ W, (w.alloc (.cells #[.pointer (some ⟨bp, 0, none⟩), .int .i64 (i : Int)] 91)).alloc (.cells #[.pointer (some ⟨bp, 0, none⟩), .int .i64 (j : Int)] 91) = W := ⟨_, rfl⟩
  have hB : Below w.heap.size w W := by rw [← hW]; exact ((Below.refl _ _).alloc (Nat.le_refl _) _).alloc (by simp) _
  rw [hW] at q0 q1
  have hlt := (Array.getElem?_eq_some_iff.1 q1).1
  obtain ⟨x0, x1, _, _⟩ := cells_two q0
  obtain ⟨y0, y1, _, _⟩ := cells_two q1
  have hIW := hI.on hB
  have hPW := hIW.pr
  have hcp := hI.cp
  have hil := his.lt
  have hz := size_pos s
  obtain ⟨p0, p1, _, _⟩ := cells_four hPW.box
  obtain ⟨b, off, rfl, hbB, hcs⟩ := hPW.hds.ad (by omega)
  have hds := his.hds hcs
  have hbpl := hPW.lt
  have V1 : ∀ y : Later W.heap.size W, Calls Tryz.prog 119 #[.agg #[.pointer (some ⟨bp, 0, none⟩), .int .i64 (j : Int)]] y.w fun e w' => e = .returned (.bool (decide (t.fn < 0))) ∧ Below y.w.heap.size y.w w' := fun y => lpoVariable_any y.w (hPW.on y.h) hjt.top'
  have V2 : ∀ y : Later W.heap.size W, Calls Tryz.prog 119 #[.agg #[.pointer (some ⟨bp, 0, none⟩), .int .i64 (i : Int)]] y.w fun e w' => e = .returned (.bool (decide (s.fn < 0))) ∧ Below y.w.heap.size y.w w' := fun y => lpoVariable_any y.w (hPW.on y.h) his.top'
  have H3 : Hid (∀ y : Later W.heap.size W, Calls Tryz.prog 121 #[.agg #[.pointer (some ⟨bp, 0, none⟩), .int .i64 (i : Int)]] y.w fun e w' => e = .returned (.int .i64 ((i : Int) + (s.size : Int))) ∧ Below y.w.heap.size y.w w') := Lib.hid fun y => lpoEnd_any y.w (hPW.on y.h) his.top' ⟨by show _ ≤ (i : Int) + (s.size : Int); omega, by show (i : Int) + (s.size : Int) ≤ _; omega⟩
  have H4 : Hid (∀ y : Later W.heap.size W, Calls Tryz.prog 73 #[.agg #[.pointer (some ⟨bp, 0, none⟩), .int .i64 (j : Int)]] y.w fun e w' => e = .returned (.agg #[.int .i64 (topH rk.length M t).fn, .int .i64 (topH rk.length M t).sz, .int .i64 (topH rk.length M t).no]) ∧ Below y.w.heap.size y.w w') := Lib.hid fun y => lpoHead_any y.w (hPW.on y.h) hjt.top'
  have H5 : Hid (∀ y : Later W.heap.size W, Calls Tryz.prog 120 #[.slice (some ⟨b, off + i * 3, none⟩) s.size (hc - i), .agg #[.int .i64 (topH rk.length M t).fn, .int .i64 (topH rk.length M t).sz, .int .i64 (topH rk.length M t).no]] y.w fun e w' => e = .returned (.bool ((hsT rk.length M s).any (hdB (topH rk.length M t)))) ∧ Below y.w.heap.size y.w w') := Lib.hid fun y => by
    have h1 := lpoContains0_any b (off + i * 3) (hc - i) (hsT rk.length M s) (topH rk.length M t) y.w (by rw [hsT_len]; omega) (Nat.lt_of_lt_of_le hbB y.h.size) fun k x hx => ⟨cell_on y.h hbB (hds k x hx).1, cell_on y.h hbB (hds k x hx).2.1, cell_on y.h hbB (hds k x hx).2.2⟩
    rw [hsT_len] at h1
    exact h1
  obtain ⟨hd, hhd⟩ : ∃ hd, topH rk.length M t = hd := ⟨_, rfl⟩
  have hsl : ∀ w : World, (Instr.slice 126 (.slice (some ⟨b, off, none⟩) H.length hc) (some (.int .i64 (i : Int))) (some (.int .i64 ((i : Int) + (s.size : Int)))) none).run Tryz.prog w = .ok (.slice (some ⟨b, off + i * 3, none⟩) s.size (hc - i)) w := fun w => run_slice_heads b off H.length hc i s.size (by omega) (by omega) w
  have m0 : ∀ y : Later W.heap.size W, y.w.cell? ⟨w.heap.size, 0, none⟩ = some (.pointer (some ⟨bp, 0, none⟩)) := fun y => cell_on y.h (by omega) x0
  have m1 : ∀ y : Later W.heap.size W, y.w.cell? ⟨w.heap.size, 1, none⟩ = some (.int .i64 (i : Int)) := fun y => cell_on y.h (by omega) x1
  have m2 : ∀ y : Later W.heap.size W, y.w.cell? ⟨w.heap.size + 1, 0, none⟩ = some (.pointer (some ⟨bp, 0, none⟩)) := fun y => cell_on y.h hlt y0
  have m3 : ∀ y : Later W.heap.size W, y.w.cell? ⟨w.heap.size + 1, 1, none⟩ = some (.int .i64 (j : Int)) := fun y => cell_on y.h hlt y1
  have m4 : ∀ y : Later W.heap.size W, y.w.cell? ⟨bp, 1, none⟩ = some (.slice (some ⟨b, off, none⟩) H.length hc) := fun y => cell_on y.h hbpl p1
  have HW := Lib.hid hW
  have HI := Lib.hid hIW
  have HB := Lib.hid hB
  by_cases htv : t.fn < 0
  · have hany := hs_var hM ht htv s hs
    simp only [decide_eq_true htv] at V1
    have HV1 := Lib.hid V1
    by_cases hsv : s.fn < 0
    · have hfin := Lib.hid (show contB s t = false by unfold contB; rw [decide_eq_true hsv]; simp)
      simp only [decide_eq_true hsv] at V2
      have HV2 := Lib.hid V2
      clear hW q0 q1 hI hIW his hjt x0 x1 y0 y1 hlt hPW hcs hds p0 p1 V1 V2 hany hB hsl hhd hil hcp hbB hbpl hs ht htv hsv
      go_enter Tryz.func102, Tryz.ntmps102
      go_upto_region 1 with fail
      rw [HW.out]
      refine wp_region_later W.heap.size W (by kernel_rfl) (by kernel_rfl) (bl_drewN (Below.refl _ _) 1) ?_
      repeat (go_big_quiet_step (first
        | (go_at_call 119; first
          | (with_reducible refine calls_later _ (Nat.le_refl _) (HV1.out _))
          | (with_reducible refine calls_later _ (Nat.le_refl _) (HV2.out _)))
        | fail))
      refine wpQuiet_nil ?_
      rintro _ ⟨z, rfl⟩
      clear m0 m1 m2 m3 m4
      go_wp2
      go_ret
      exact ⟨ret_bool hfin.out.symm, (KeepsC.of_below HB.out).trans (KeepsC.of_below z.h), HI.out.on z.h⟩
    · have hfin := Lib.hid (show contB s t = (hsT rk.length M s).any (hdB hd) by
        rw [← hhd, hany]; unfold contB; rw [decide_eq_true htv, decide_eq_false hsv]; rfl)
      simp only [decide_eq_false hsv] at V2
      have HV2 := Lib.hid V2
      rw [hhd] at H4 H5
      obtain ⟨r, hr⟩ : ∃ r, (hsT rk.length M s).any (hdB hd) = r := ⟨_, rfl⟩
      rw [hr] at H5 hfin
      clear hW q0 q1 hI hIW his hjt x0 x1 y0 y1 hlt hPW hcs hds p0 p1 V1 V2 hany hB hhd hil hcp hbB hbpl hr hs ht htv hsv
      go_enter Tryz.func102, Tryz.ntmps102
      go_upto_region 1 with fail
      rw [HW.out]
      refine wp_region_later W.heap.size W (by kernel_rfl) (by kernel_rfl) (bl_drewN (Below.refl _ _) 1) ?_
      repeat (go_big_quiet_step (first
        | (go_at_call 119; first
          | (with_reducible refine calls_later _ (Nat.le_refl _) (HV1.out _))
          | (with_reducible refine calls_later _ (Nat.le_refl _) (HV2.out _)))
        | (go_at_call 121; with_reducible refine calls_later _ (Nat.le_refl _) (H3.out _))
        | (go_at_call 73; with_reducible refine calls_later _ (Nat.le_refl _) (H4.out _))
        | (go_at_call 120; with_reducible refine calls_later _ (Nat.le_refl _) (H5.out _))
        | fail))
      refine wpQuiet_nil ?_
      rintro _ ⟨z, rfl⟩
      clear m0 m1 m2 m3 m4
      go_wp2
      go_ret
      exact ⟨ret_bool hfin.out.symm, (KeepsC.of_below HB.out).trans (KeepsC.of_below z.h), HI.out.on z.h⟩
  · have hfin := Lib.hid (show contB s t = false by unfold contB; rw [decide_eq_false htv]; rfl)
    simp only [decide_eq_false htv] at V1
    have HV1 := Lib.hid V1
    clear hW q0 q1 hI hIW his hjt x0 x1 y0 y1 hlt hPW hcs hds p0 p1 V1 V2 hB hsl hhd hil hcp hbB hbpl hs ht htv
    go_enter Tryz.func102, Tryz.ntmps102
    go_upto_region 1 with fail
    rw [HW.out]
    refine wp_region_later W.heap.size W (by kernel_rfl) (by kernel_rfl) (bl_drewN (Below.refl _ _) 1) ?_
    repeat (go_big_quiet_step (first
      | (go_at_call 119; with_reducible refine calls_later _ (Nat.le_refl _) (HV1.out _))
      | fail))
    refine wpQuiet_nil ?_
    rintro _ ⟨z, rfl⟩
    clear m0 m1 m2 m3 m4
    go_wp2
    go_ret
    exact ⟨ret_bool hfin.out.symm, (KeepsC.of_below HB.out).trans (KeepsC.of_below z.h), HI.out.on z.h⟩
end
end Go.Proofs.YthgglobfkkcdgaaGreatDoor
