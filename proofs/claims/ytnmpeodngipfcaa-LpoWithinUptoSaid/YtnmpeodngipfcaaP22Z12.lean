import Derived.Test.YtnmpeodngipfcaaP22Z2
import Derived.Test.YtnmpeodngipfcaaP22Z11
import Derived.Test.YtnmpeodngipfcaaP22Z5
import Derived.Test.YtnmpeodngipfcaaP22Z7
import Derived.Test.YtnmpeodngipfcaaP22Z1
/- rows of numbers that grow -/

namespace Go.Proofs.Ytnmpeodngipfcaa

open Go.RowKit Go.Shelf Go.Maps
set_option maxRecDepth 100000
set_option maxRecDepth 100000

theorem set_four {W : World} {b : Nat} {x y z u x' y' z' u' : Value} {t : TypeId} (h : W.heap[b]? = some (.cells #[x, y, z, u] t)) :
    ((((W.setCell ⟨b, 0, none⟩ x').setCell ⟨b, 1, none⟩ y').setCell ⟨b, 2, none⟩ z').setCell ⟨b, 3, none⟩ u').heap[b]? = some (.cells #[x', y', z', u'] t) := by
  have h1 : (W.setCell ⟨b, 0, none⟩ x').heap[b]? = some (.cells #[x', y, z, u] t) := heap_setCell_same W _ 0 _ _ _ h
  have h2 : ((W.setCell ⟨b, 0, none⟩ x').setCell ⟨b, 1, none⟩ y').heap[b]? = some (.cells #[x', y', z, u] t) := heap_setCell_same _ _ 1 _ _ _ h1
  have h3 : (((W.setCell ⟨b, 0, none⟩ x').setCell ⟨b, 1, none⟩ y').setCell ⟨b, 2, none⟩ z').heap[b]? = some (.cells #[x', y', z', u] t) := heap_setCell_same _ _ 2 _ _ _ h2
  exact heap_setCell_same _ _ 3 _ _ _ h3

theorem row_low {W : World} {base base' n : Nat} {e : TypeId} {size : Nat} {v : Value} {vs : List Value} (h : W.ownsRow base e size v n vs) (hb : base' ≤ base) : W.ownsRow base' e size v n vs := by
  refine ⟨h.1, ?_⟩
  rcases h.2 with h0 | ⟨g', cap, cur, rfl, hbg, hrest⟩
  · exact .inl h0
  · exact .inr ⟨g', cap, cur, rfl, Nat.le_trans hb hbg, hrest⟩

/-- The numbers 0 .. k - 1. -/
def numsI (k : Nat) : List Int := (List.range k).map fun i : Nat => (i : Int)

theorem numsI_succ (k : Nat) : numsI (k + 1) = numsI k ++ [(k : Int)] := by unfold numsI; rw [List.range_succ, List.map_append]; rfl

theorem numsI_len (k : Nat) : (numsI k).length = k := by unfold numsI; simp

theorem ones_succ (k : Nat) : List.replicate (k + 1) (1 : Int) = List.replicate k 1 ++ [1] := by rw [List.replicate_succ']

end Go.Proofs.Ytnmpeodngipfcaa

/- lpo: Least. -/

namespace Go.Proofs.Ytnmpeodngipfcaa

open Go.RowKit Go.Shelf Go.Maps
set_option maxRecDepth 100000

/-- An order by number that is filled. -/
structure LstP (W : World) (bx : Nat) (vP : Value) (lP : List Int) (w : World) : Prop where
  box : w.heap[bx]? = some (.cells #[.bool true, vP, .slice none 0 0, .int .i64 0] 24)
  P : IntsR w W.heap.size vP lP
  kp : KeepsC (· = bx) W w
  lt : bx < W.heap.size

theorem LstP.p {W w w5 : World} {bx : Nat} {vP v5 : Value} {lP : List Int} {x : Int} {o : Obj} (h : LstP W bx vP lP w) (hx : I64 x) (hown : w5.ownsRow W.heap.size 3 1 v5 (lP.length + 1) (lP.map (Value.int .i64) ++ [.int .i64 x])) (hgr : (w.alloc o).grownBy w5 vP.ownBlock) (hat : v5.ownBlock = vP.ownBlock ∨ v5.ownBlock = some (w.alloc o).heap.size) :
    LstP W bx v5 (lP ++ [x]) (w5.setCell ⟨bx, 1, none⟩ v5) ∧ w5.heap[bx]? = some (.cells #[.bool true, vP, .slice none 0 0, .int .i64 0] 24) := by
  have hb : w5.heap[bx]? = some (.cells #[.bool true, vP, .slice none 0 0, .int .i64 0] 24) := by
    have hlt : bx < w.heap.size := (Array.getElem?_eq_some_iff.1 h.box).1
    rw [hgr.block bx (by simp; omega) (fun e => by have := (row_lt h.P.row bx e.symm).1; have := h.lt; omega)]
    exact (Below.heap_alloc w o bx hlt).trans h.box
  have ho := ord_app (o := o) h.P (Below.refl _ _) hx hown hgr hat
  have hset : ∀ g, g ≠ bx → (w5.setCell ⟨bx, 1, none⟩ v5).heap[g]? = w5.heap[g]? := fun g hg => heap_setCell_other _ _ _ _ hg
  refine ⟨⟨?_, ⟨row_keep ho.row.row fun g e => hset g (by have := (row_lt ho.row.row g e).1; have := h.lt; omega), ho.row.i64⟩, ?_, h.lt⟩, hb⟩
  · exact heap_setCell_same w5 _ 1 _ _ _ hb
  · have hk5 : KeepsC (· = bx) W w5 := ⟨ho.gr.os.trans h.kp.os, ho.gr.tape.trans h.kp.tape, ho.gr.output.trans h.kp.output, Nat.le_trans h.kp.size ho.gr.size, fun g hg => (ho.gr.block g (Nat.lt_of_lt_of_le hg.1 h.kp.size) (fun e => by have := (row_lt h.P.row g e.symm).1; omega)).trans (h.kp.block hg.1 hg.2)⟩
    exact keepsC_set1 hk5 _ _

set_option maxHeartbeats 4000000 in
theorem lpoLeast_any (n : Nat) (hn : n ≤ 1000) (w : World) : Calls Try.prog 52 #[.int .i64 (n : Int)] w fun e w' => ∃ vP, e = .returned (.agg #[.bool true, vP, .slice none 0 0, .int .i64 0]) ∧ IntsR w' w.heap.size vP (numsI n) ∧ Below w.heap.size w w' := by
  obtain ⟨q0, q1⟩ := heap2 w (.cells #[.bool false, .slice none 0 0, .slice none 0 0, .int .i64 0] 24) (.cells #[.bool true, .slice none 0 0, .slice none 0 0, .int .i64 0] 24)
  obtain ⟨W, hW⟩ : ∃ W, ((w.alloc (.cells #[.bool false, .slice none 0 0, .slice none 0 0, .int .i64 0] 24)).alloc (.cells #[.bool true, .slice none 0 0, .slice none 0 0, .int .i64 0] 24)) = W := ⟨_, rfl⟩
  have hB : Below w.heap.size w W := by rw [← hW]; exact ((Below.refl _ _).alloc (Nat.le_refl _) _).alloc (by simp) _
  rw [hW] at q0 q1
  have hWz : W.heap.size = w.heap.size + 2 := by rw [← hW]; simp
  obtain ⟨i0, hi, hz0, hz1, hz2⟩ := info_parts info_int
  have hL0 : LstP W (w.heap.size + 1) (.slice none 0 0) [] W := ⟨q1, ⟨⟨by simp, .inl ⟨rfl, rfl⟩⟩, by simp⟩, KeepsC.refl _ _, by omega⟩
  have HL0 := Lib.hid hL0
  have HW := Lib.hid hW
  have Hq0 := Lib.hid q0
  clear hW hL0 q0 q1
  go_enter Try.func52, Try.ntmps52
  go_upto_region 2 with fail
  rw [HW.out]
  go_wp2
  go_loopw [4] (fun i wr => ∃ (k : Nat) (vP : Value), k ≤ n ∧ i = .int .i64 (k : Int) ∧ Hid (LstP W (w.heap.size + 1) vP (numsI k) wr)) (fun i _ => n - (intOf i).toNat)
  case atStart => exact ⟨0, _, Nat.zero_le _, rfl, HL0⟩
  case round =>
    obtain ⟨k, vP, hk, rfl, HL⟩ := hrel
    obtain ⟨c0, c1, c2, c3⟩ := cells_four HL.out.box
    by_cases hkl : k < n
    · obtain ⟨Ap, cp, hvp⟩ := row_slice HL.out.P.row
      rw [numsI_len] at hvp
      subst hvp
      have hrl := row_lt HL.out.P.row
      have hkp := HL.out.kp.size
      have hwr1 : IntKind.i64.wrap ((k : Int) + 1) = (k : Int) + 1 := by rw [IntKind.wrap_i64]; omega
      go_wp2_with (first
        | (at_builtin
           go_must (
           refine wpList_append_own_at _ rfl _ _ 22 rfl W.heap.size 3 i0 (.int .i64 0) 1 8 Try.underlying22 hi hz0 hz1 hz2 rfl (by decide) (.slice Ap k cp) k _ rfl (row_keep (by have := HL.out.P.row; rwa [numsI_len] at this) fun g e => Below.heap_alloc wr _ g (hrl g e).2) ⟨wr.heap.size, 0, none⟩ 1 1 [.int .i64 (k : Int)] rfl rfl (cell_one_new _ _ _) (by simp [Value.oneCell']) (by unfold maxLen; omega) (by omega) (by simp; omega) ?_
           intro v5 w5 hown5 hgr5 _ hat5
           obtain ⟨A5, c5, rfl⟩ := row_slice hown5
           have H5 := Lib.hid (HL.out.p (x := (k : Int)) ⟨by omega, by omega⟩ (by rw [numsI_len]; exact hown5) hgr5 hat5)
           have hfz := frozen_9 H5.out.2 1
           have hc5 := (cells_four H5.out.2).2.1
           clear hown5 hgr5 hat5))
        | fail)
      go_roundw
      case rel => exact ⟨k + 1, _, by omega, by go_num, Lib.hid (by rw [numsI_succ]; exact H5.out.1)⟩
      case measure => simp [intOf]; omega
    · obtain rfl : k = n := by omega
      obtain ⟨Ap, cp, hvp⟩ := row_slice HL.out.P.row
      rw [numsI_len] at hvp
      subst hvp
      have hr0 := (HL.out.kp.block (show w.heap.size < W.heap.size by omega) (show ¬ w.heap.size = w.heap.size + 1 by omega)).trans Hq0.out
      have hfr := frozen_9 hr0
      obtain ⟨r0, r1, r2, r3⟩ := cells_four hr0
      have hset := Lib.hid (fun (x y z u : Value) => set_four (x' := x) (y' := y) (z' := z) (u' := u) hr0)
      have hP := HL.out.P
      have hkk := HL.out.kp
      have hs4 := fun (x y z u : Value) => keepsC_set1 (b := w.heap.size) (keepsC_set1 (keepsC_set1 (keepsC_set1 (KeepsC.refl _ wr) 0 x) 1 y) 2 z) 3 u
      have HR : Hid (∀ x y z u : Value, let W' := ((((wr.setCell ⟨w.heap.size, 0, none⟩ x).setCell ⟨w.heap.size, 1, none⟩ y).setCell ⟨w.heap.size, 2, none⟩ z).setCell ⟨w.heap.size, 3, none⟩ u); IntsR W' w.heap.size (.slice Ap k cp) (numsI k) ∧ Below w.heap.size w W') := Lib.hid fun x y z u => by
        have h4 := hs4 x y z u
        have hw1 := hkk.size
        refine ⟨⟨row_low (row_keep hP.row fun g e => h4.block (row_lt hP.row g e).2 (by have := (row_lt hP.row g e).1; omega)) (by omega), hP.i64⟩, ?_⟩
        exact (hB.trans (hkk.below (n := w.heap.size) (by omega) fun g hg => by omega)).trans (h4.below (by omega) fun g hg => by omega)
      clear hP hkk hs4 hr0
      go_wp2
      have hfin := hset.out (.bool true) (.slice Ap k cp) (.slice none 0 0) (.int .i64 0)
      have hrr := Lib.hid (HR.out (.bool true) (.slice Ap k cp) (.slice none 0 0) (.int .i64 0))
      obtain ⟨Y, hY⟩ : ∃ Y, ((((wr.setCell ⟨w.heap.size, 0, none⟩ (.bool true)).setCell ⟨w.heap.size, 1, none⟩ (.slice Ap k cp)).setCell ⟨w.heap.size, 2, none⟩ (.slice none 0 0)).setCell ⟨w.heap.size, 3, none⟩ (.int .i64 0)) = Y := ⟨_, rfl⟩
      simp only [hY] at hrr
      rw [hY] at hfin ⊢
      obtain ⟨f0, f1, f2, f3⟩ := cells_four hfin
      refine bodyPost_ret (v := .agg #[.bool true, .slice Ap k cp, .slice none 0 0, .int .i64 0]) (by simp [results, Try.results52, go_sem, f0, f1, f2, f3]) rfl ⟨_, rfl, ?_, ?_⟩
      · exact hrr.out.1
      · exact hrr.out.2

end Go.Proofs.Ytnmpeodngipfcaa

/- what wakes share: numbers in memory, the facts' ends -/

namespace Go.Proofs.Ytnmpeodngipfcaa

open Go.RowKit Go.Shelf Go.Maps
set_option maxRecDepth 100000
set_option maxRecDepth 100000

theorem IntsR.ints {w : World} {base : Nat} {A : Option Addr} {n c : Nat} {l : List Int} (h : IntsR w base (.slice A n c) l) (hl : l.length ≤ 9223372036854775807) : Ints w w.heap.size A l := by
  refine ⟨hl, h.i64, fun hn => ?_⟩
  obtain ⟨x, hx⟩ : ∃ x, l[0]? = some x := ⟨_, List.getElem?_eq_getElem hn⟩
  obtain ⟨g, c', hv, hg, _⟩ := h.get hx
  injection hv with hA
  refine ⟨g, 0, hA, hg, fun i y hy => ?_⟩
  obtain ⟨g2, c2, hv2, _, hc⟩ := h.get hy
  injection hv2 with hA2
  rw [hA] at hA2
  injection hA2 with hA2
  injection hA2 with hA2
  rw [hA2, Nat.zero_add]
  exact hc

/-- The facts' ends: what the last operation leaves is all that is wanted. -/
theorem finF_last {P : Program} {Q : Act → World → Prop} {w : World} {d : Nat} {v : Value} : ∀ (l : List Oper) (pl : List Fct) (a : Act), l.length = pl.length → d < a.tmps.size → (∃ o, l.getLast? = some o ∧ o.dst = some d) → pl.getLast? = some (Fct.eq v) → (∀ a' : Act, a'.defers = a.defers → a'.tmps.size = a.tmps.size → a'.eval (.tmp d) = v → Q a' w) → finF Q w l pl a
  | [], _, _, _, _, ⟨_, h, _⟩, _, _ => by simp at h
  | _ :: _, [], _, h, _, _, _, _ => by simp at h
  | [o], [p], a, _, hd, ⟨o', h1, h2⟩, h3, h => by
    simp at h1 h3
    subst h1 h3
    unfold finF
    rw [h2]
    intro u hu
    have hu : u = v := hu
    subst hu
    unfold finF
    exact h _ rfl (by simp [Act.put]) (by simp [Act.put, Act.eval, hd])
  | [o], _ :: _ :: _, a, h0, _, _, _, _ => by simp at h0
  | _ :: _ :: _, [_], a, h0, _, _, _, _ => by simp at h0
  | o :: o2 :: l, p :: p2 :: pl, a, h0, hd, h1, h3, h => by
    have hg : ∀ a' : Act, a'.defers = a.defers → a'.tmps.size = a.tmps.size → finF Q w (o2 :: l) (p2 :: pl) a' := fun a' e1 e2 =>
      finF_last (P := P) (o2 :: l) (p2 :: pl) a' (by simpa using h0) (by rw [e2]; exact hd) (by simpa using h1) (by simpa using h3) fun a2 e3 e4 => h a2 (e3.trans e1) (e4.trans e2)
    unfold finF
    cases o.dst with
    | none => exact hg a rfl rfl
    | some d' => intro u _; exact hg _ rfl (by simp [Act.put])

/-- An order that lies in memory, as a value. -/
def ordF (o : Odr) (P : Option Addr) (pc : Nat) (Q : Option Addr) (qc : Nat) : Fct := Fct.eq (.agg #[.bool o.lpo, .slice P o.prec.length pc, .slice Q o.wts.length qc, .int .i64 o.var])

theorem i64s (n : Int) (h1 : -100 ≤ n) (h2 : n ≤ 100) : I64 n := ⟨by omega, by omega⟩

end Go.Proofs.Ytnmpeodngipfcaa

/- lpo: wakes (of its laws). -/

namespace Go.Proofs.Ytnmpeodngipfcaa

open Go.RowKit Go.Shelf Go.Maps
set_option maxRecDepth 100000

def ord9 : Odr := ⟨true, [0, 1, 2, 3, 4], [], 0⟩

def tY : Tm := .node (-2) []

theorem wak91 : cmpP [0, 1, 2, 3, 4] (.node 4 [tX]) (.node 3 [tX, tX]) = 3 := by decide +kernel

theorem wak92 : cmpP [0, 1, 2, 3, 4] (.node 3 [tX, tA]) tX = 3 := by decide +kernel

theorem wak93 : cmpP [0, 1, 2, 3, 4] (.node 3 [tX, tY]) (.node 3 [tY, tX]) = 0 := by decide +kernel

theorem wak94 : cmpP [0, 1, 2, 3, 4] (.node 4 [tA]) (.node 3 [tB, tB]) = 3 := by decide +kernel

theorem wak95 : cmpP [0, 1, 2, 3, 4] (.node 3 [tA, tB]) (.node 3 [tB, tA]) = 1 := by decide +kernel

theorem wak96 : cmpP [0, 1, 2, 3, 4] tX tY = 0 := by decide +kernel

section

variable {Fs : List Fct} {a0 : Act} {W : World} {dst : Option Tmp} {ty : TypeId} {pos : String} {after : Array Edge} {guard : Option (Nat × Bool)}

theorem st_of9 {f : Int} {s j : Nat} {ts : List Tm} (hg : ∀ j want, guard = some (j, want) → ∀ v w, (Fs.getD j Fct.any).p v w → v = .bool want) (h64 : I64 f) (hF : Fs.getD j Fct.any = slF ts) :
    stepF Try.prog Fs a0 W ⟨dst, .call ⟨.value (.func 53), #[.const (.int .i64 f), .tmp s], #[3, 25]⟩, ty, pos, after, guard⟩ [(s, some j)] (tmF (.node f ts)) := by
  refine .inl ⟨hg, fun a w hb hl => ?_⟩
  have h0 := hl.1
  rw [hF] at h0
  obtain ⟨A, hv, hA⟩ := h0
  have h1 := ev_get hv
  simp [go_sem, leaves, h1]
  refine (lpoOf_eq f ts.length ts.length A w).mono fun e w' h => ?_
  obtain ⟨he, hw⟩ := h
  subst hw
  have hbl : Below w.heap.size w (w.alloc (.cells #[.int .i64 f, .slice A ts.length ts.length] 27)) := (Below.refl _ _).alloc (Nat.le_refl _) _
  exact ⟨_, he, hbl, h64, A, _, rfl, hA.on hbl⟩

theorem st_cmp9 {o : Odr} {P Q : Option Addr} {pc qc : Nat} {s0 s1 s2 j0 j1 j2 : Nat} {t u : Tm} {k : Int} (hg : ∀ j want, guard = some (j, want) → ∀ v w, (Fs.getD j Fct.any).p v w → v = .bool want) (hM : OdrM W W.heap.size o P Q) (hrk : o.prec.length ≤ 140737488351232) (hn : t.size + u.size ≤ 1073741824) (hk : cmpP o.prec t u = k)
    (hF0 : Fs.getD j0 Fct.any = Fct.eq (.agg #[.bool o.lpo, .slice P o.prec.length pc, .slice Q o.wts.length qc, .int .i64 o.var])) (hF1 : Fs.getD j1 Fct.any = tmF t) (hF2 : Fs.getD j2 Fct.any = tmF u) :
    stepF Try.prog Fs a0 W ⟨dst, .call ⟨.value (.func 30), #[.tmp s0, .tmp s1, .tmp s2], #[24, 27, 27]⟩, ty, pos, after, guard⟩ [(s0, some j0), (s1, some j1), (s2, some j2)] (Fct.eq (.int .i64 k)) := by
  refine .inl ⟨hg, fun a w hb hl => ?_⟩
  obtain ⟨h0, h1, h2, _⟩ := hl
  rw [hF0] at h0
  rw [hF1] at h1
  rw [hF2] at h2
  obtain ⟨h64, A, c, hv, hA⟩ := h1
  obtain ⟨g64, A2, c2, hv2, hA2⟩ := h2
  have e0 := ev_get h0
  have e1 := ev_get hv
  have e2 := ev_get hv2
  simp [go_sem, leaves, e0, e1, e2]
  refine (lpoCmp_any o t u P Q A A2 pc qc c c2 w (hM.on hb) hrk h64 g64 hn hA hA2).mono fun e w' h => ?_
  exact ⟨_, h.1, h.2, by rw [hk]; rfl⟩

end

theorem lpoLeast5 (w : World) : Calls Try.prog 52 #[.int .i64 5] w fun e w' => ∃ P pc, e = .returned (.agg #[.bool true, .slice P 5 pc, .slice none 0 0, .int .i64 0]) ∧ IntsR w' w.heap.size (.slice P 5 pc) [0, 1, 2, 3, 4] ∧ Below w.heap.size w w' := by
  refine (lpoLeast_any 5 (by omega) w).mono ?_
  rintro e w1 ⟨vP, rfl, hP, hb1⟩
  obtain ⟨P, pc, rfl⟩ := row_slice hP.row
  exact ⟨P, pc, rfl, hP, hb1⟩

set_option maxHeartbeats 2000000 in
theorem lpoWakes_any (w : World) : Calls Try.prog 28 #[] w fun e w' => e = .returned (.bool true) ∧ Below w.heap.size w w' := by
  have HL1 := Lib.hid lpoLeast5
  go_enter Try.func28, Try.ntmps28
  go_upto_region 3 with (first
    | (go_at_call 52; (with_reducible refine (HL1.out _).mono ?_); go_must (rintro e w1 ⟨P, pc, rfl, hP, hb1⟩; clear HL1))
    | (go_at_call 53; (with_reducible refine (lpoOf_eq _ _ _ _ _).mono ?_); go_must (rintro e _ ⟨rfl, rfl⟩))
    | fail)
  obtain ⟨W0, hW0⟩ : ∃ W0, (((((w1.alloc (.cells #[.bool true, .slice P 5 pc, .slice none 0 0, .int .i64 0] 24)).alloc (.cells #[.int .i64 (-1), .slice none 0 0] 27)).alloc (.cells #[.int .i64 (-2), .slice none 0 0] 27)).alloc (.cells #[.int .i64 1, .slice none 0 0] 27)).alloc (.cells #[.int .i64 2, .slice none 0 0] 27)) = W0 := ⟨_, rfl⟩
  have hB0 : Below w1.heap.size w1 W0 := by rw [← hW0]; exact below5 _ _ _ _ _ _
  obtain ⟨j1, _, _, _, _⟩ := heap5 w1 (.cells #[.bool true, .slice P 5 pc, .slice none 0 0, .int .i64 0] 24) (.cells #[.int .i64 (-1), .slice none 0 0] 27) (.cells #[.int .i64 (-2), .slice none 0 0] 27) (.cells #[.int .i64 1, .slice none 0 0] 27) (.cells #[.int .i64 2, .slice none 0 0] 27)
  rw [hW0] at j1
  rw [hW0]
  have hz0 : W0.heap.size = w1.heap.size + 5 := by rw [← hW0]; simp
  obtain ⟨W1, hW1⟩ : ∃ W1, ((((W0.alloc (.cells #[.int .i64 (-1), .slice none 0 0] 27)).alloc (.cells #[.int .i64 (-2), .slice none 0 0] 27)).alloc (.cells #[.int .i64 1, .slice none 0 0] 27)).alloc (.cells #[.int .i64 2, .slice none 0 0] 27)) = W1 := ⟨_, rfl⟩
  obtain ⟨k2, k3, k4, k5⟩ := heap4r W0 (.cells #[.int .i64 (-1), .slice none 0 0] 27) (.cells #[.int .i64 (-2), .slice none 0 0] 27) (.cells #[.int .i64 1, .slice none 0 0] 27) (.cells #[.int .i64 2, .slice none 0 0] 27)
  have hB01 : Below W0.heap.size W0 W1 := by rw [← hW1]; exact ((((Below.refl _ _).alloc (Nat.le_refl _) _).alloc (by simp) _).alloc (by simp; omega) _).alloc (by simp; omega) _
  rw [hW1] at k2 k3 k4 k5 ⊢
  rw [hz0] at k2 k3 k4 k5
  have k1 := (hB01.block _ (show w1.heap.size < W0.heap.size by omega)).trans j1
  have hB1 : Below w1.heap.size w1 W1 := hB0.trans (hB01.mono (by omega))
  have hBf : Below w.heap.size w W1 := hb1.trans (hB1.mono hb1.size)
  have hM0 : OdrM W1 W1.heap.size ord9 P none := ⟨(hP.on hB1).ints (by decide), ⟨by decide, by simp [ord9], fun h => by simp [ord9] at h⟩, i64s _ (by decide) (by decide)⟩
  have HF := Lib.hid (And.intro k1 (And.intro k2 (And.intro k3 (And.intro k4 (And.intro k5 hM0)))))
  clear hW1 hP hb1 hB1 k1 k2 k3 k4 k5 hM0 hW0 hB0 hB01 j1 hz0
  obtain ⟨h1, h2, h3, h4, h5, hM0⟩ := HF.out
  have hM := hM0.on (Below.refl _ _).drew
  refine wp_region_facts 76 [[(1, none)], [(2, none)], [(12, some 1)], [(13, some 2)], [(2, none)], [(2, none)], [(15, some 4), (16, some 5)], [(17, some 6)], [(11, some 0), (14, some 3), (18, some 7)], [(19, some 8)], [(20, some 9)], [(1, none)], [(2, none)], [(4, none)], [(23, some 12), (24, some 13)], [(25, some 14)], [(2, none)], [(22, some 11), (26, some 15), (27, some 16)], [(28, some 17)], [(21, some 10), (29, some 18)], [(30, some 19)], [(1, none)], [(2, none)], [(3, none)], [(33, some 22), (34, some 23)], [(35, some 24)], [(3, none)], [(2, none)], [(37, some 26), (38, some 27)], [(39, some 28)], [(32, some 21), (36, some 25), (40, some 29)], [(41, some 30)], [(31, some 20), (42, some 31)], [(43, some 32)], [(1, none)], [(4, none)], [(46, some 35)], [(47, some 36)], [(5, none)], [(5, none)], [(49, some 38), (50, some 39)], [(51, some 40)], [(45, some 34), (48, some 37), (52, some 41)], [(53, some 42)], [(44, some 33), (54, some 43)], [(55, some 44)], [(1, none)], [(4, none)], [(5, none)], [(58, some 47), (59, some 48)], [(60, some 49)], [(5, none)], [(4, none)], [(62, some 51), (63, some 52)], [(64, some 53)], [(57, some 46), (61, some 50), (65, some 54)], [(66, some 55)], [(56, some 45), (67, some 56)], [(68, some 57)], [(1, none)], [(2, none)], [(3, none)], [(70, some 59), (71, some 60), (72, some 61)], [(73, some 62)], [(69, some 58), (74, some 63)], [(75, some 64)]]
    [ordF ord9 P pc none 0, tmF tX, slF [tX], tmF (.node 4 [tX]), tmF tX, tmF tX, slF [tX, tX], tmF (.node 3 [tX, tX]), Fct.eq (.int .i64 3), Fct.eq (.bool true), Fct.eq (.bool true), ordF ord9 P pc none 0, tmF tX, tmF tA, slF [tX, tA], tmF (.node 3 [tX, tA]), tmF tX, Fct.eq (.int .i64 3), Fct.eq (.bool true), Fct.eq (.bool true), Fct.eq (.bool true), ordF ord9 P pc none 0, tmF tX, tmF tY, slF [tX, tY], tmF (.node 3 [tX, tY]), tmF tY, tmF tX, slF [tY, tX], tmF (.node 3 [tY, tX]), Fct.eq (.int .i64 0), Fct.eq (.bool true), Fct.eq (.bool true), Fct.eq (.bool true), ordF ord9 P pc none 0, tmF tA, slF [tA], tmF (.node 4 [tA]), tmF tB, tmF tB, slF [tB, tB], tmF (.node 3 [tB, tB]), Fct.eq (.int .i64 3), Fct.eq (.bool true), Fct.eq (.bool true), Fct.eq (.bool true), ordF ord9 P pc none 0, tmF tA, tmF tB, slF [tA, tB], tmF (.node 3 [tA, tB]), tmF tB, tmF tA, slF [tB, tA], tmF (.node 3 [tB, tA]), Fct.eq (.int .i64 1), Fct.eq (.bool true), Fct.eq (.bool true), Fct.eq (.bool true), ordF ord9 P pc none 0, tmF tX, tmF tY, Fct.eq (.int .i64 0), Fct.eq (.bool true), Fct.eq (.bool true), Fct.eq (.bool true)] (by kernel_rfl) (by decide +kernel) (by kernel_rfl) ?_ ?_
  · exact ⟨st_load4 gd_none rfl h1, st_term gd_none rfl h2 (i64s _ (by decide) (by decide)) (.nil _ _), st_bs1 gd_none rfl, st_of9 gd_none (i64s _ (by decide) (by decide)) rfl, st_term gd_none rfl h2 (i64s _ (by decide) (by decide)) (.nil _ _), st_term gd_none rfl h2 (i64s _ (by decide) (by decide)) (.nil _ _), st_bs2 gd_none rfl rfl, st_of9 gd_none (i64s _ (by decide) (by decide)) rfl, st_cmp9 gd_none hM (by decide) (by decide +kernel) wak91 rfl rfl rfl, st_eq gd_none rfl, st_move gd_none rfl, st_load4 (gd_true rfl) rfl h1, st_term (gd_true rfl) rfl h2 (i64s _ (by decide) (by decide)) (.nil _ _), st_term (gd_true rfl) rfl h4 (i64s _ (by decide) (by decide)) (.nil _ _), st_bs2 (gd_true rfl) rfl rfl, st_of9 (gd_true rfl) (i64s _ (by decide) (by decide)) rfl, st_term (gd_true rfl) rfl h2 (i64s _ (by decide) (by decide)) (.nil _ _), st_cmp9 (gd_true rfl) hM (by decide) (by decide +kernel) wak92 rfl rfl rfl, st_eq (gd_true rfl) rfl, st_pick gd_none rfl rfl, st_move gd_none rfl, st_load4 (gd_true rfl) rfl h1, st_term (gd_true rfl) rfl h2 (i64s _ (by decide) (by decide)) (.nil _ _), st_term (gd_true rfl) rfl h3 (i64s _ (by decide) (by decide)) (.nil _ _), st_bs2 (gd_true rfl) rfl rfl, st_of9 (gd_true rfl) (i64s _ (by decide) (by decide)) rfl, st_term (gd_true rfl) rfl h3 (i64s _ (by decide) (by decide)) (.nil _ _), st_term (gd_true rfl) rfl h2 (i64s _ (by decide) (by decide)) (.nil _ _), st_bs2 (gd_true rfl) rfl rfl, st_of9 (gd_true rfl) (i64s _ (by decide) (by decide)) rfl, st_cmp9 (gd_true rfl) hM (by decide) (by decide +kernel) wak93 rfl rfl rfl, st_eq (gd_true rfl) rfl, st_pick gd_none rfl rfl, st_move gd_none rfl, st_load4 (gd_true rfl) rfl h1, st_term (gd_true rfl) rfl h4 (i64s _ (by decide) (by decide)) (.nil _ _), st_bs1 (gd_true rfl) rfl, st_of9 (gd_true rfl) (i64s _ (by decide) (by decide)) rfl, st_term (gd_true rfl) rfl h5 (i64s _ (by decide) (by decide)) (.nil _ _), st_term (gd_true rfl) rfl h5 (i64s _ (by decide) (by decide)) (.nil _ _), st_bs2 (gd_true rfl) rfl rfl, st_of9 (gd_true rfl) (i64s _ (by decide) (by decide)) rfl, st_cmp9 (gd_true rfl) hM (by decide) (by decide +kernel) wak94 rfl rfl rfl, st_eq (gd_true rfl) rfl, st_pick gd_none rfl rfl, st_move gd_none rfl, st_load4 (gd_true rfl) rfl h1, st_term (gd_true rfl) rfl h4 (i64s _ (by decide) (by decide)) (.nil _ _), st_term (gd_true rfl) rfl h5 (i64s _ (by decide) (by decide)) (.nil _ _), st_bs2 (gd_true rfl) rfl rfl, st_of9 (gd_true rfl) (i64s _ (by decide) (by decide)) rfl, st_term (gd_true rfl) rfl h5 (i64s _ (by decide) (by decide)) (.nil _ _), st_term (gd_true rfl) rfl h4 (i64s _ (by decide) (by decide)) (.nil _ _), st_bs2 (gd_true rfl) rfl rfl, st_of9 (gd_true rfl) (i64s _ (by decide) (by decide)) rfl, st_cmp9 (gd_true rfl) hM (by decide) (by decide +kernel) wak95 rfl rfl rfl, st_eq (gd_true rfl) rfl, st_pick gd_none rfl rfl, st_move gd_none rfl, st_load4 (gd_true rfl) rfl h1, st_term (gd_true rfl) rfl h2 (i64s _ (by decide) (by decide)) (.nil _ _), st_term (gd_true rfl) rfl h3 (i64s _ (by decide) (by decide)) (.nil _ _), st_cmp9 (gd_true rfl) hM (by decide) (by decide +kernel) wak96 rfl rfl rfl, st_eq (gd_true rfl) rfl, st_pick gd_none rfl rfl, st_assign gd_none rfl, trivial⟩
  · intro w' hb'
    refine finF_last (P := Try.prog) (d := 0) (v := .bool true) _ _ _ (by kernel_rfl) (Nat.lt_of_lt_of_eq (show 0 < 76 by decide) (by kernel_rfl)) ⟨_, rfl, rfl⟩ rfl ?_
    intro a' hd ha he
    have HFw := Lib.hid (hBf.trans (((Below.refl _ _).drew.trans (hb'.mono (Nat.le_refl _))).mono hBf.size))
    have hd2 : a'.defers = [] := hd
    clear hd ha hb' hBf h1 h2 h3 h4 h5 hM hM0 HF
    go_wp2
    have he2 := ev_get he
    exact bodyPost_ret (v := .bool true) (by simp [results, Try.results28, go_sem, he2]) hd2 ⟨rfl, HFw.out⟩

end Go.Proofs.Ytnmpeodngipfcaa

/- lpo: the program's answers, in every world behind one. -/

namespace Go.Proofs.Ytnmpeodngipfcaa

open Go.RowKit Go.Shelf Go.Maps
set_option maxRecDepth 100000

theorem lpoCmp_at {W : World} {o : Odr} {s t : Tm} {P Q A A2 : Option Addr} {pc qc c c2 : Nat} (hrk : o.prec.length ≤ 140737488351232) (hM : OdrM W W.heap.size o P Q) (hs : TmK W s A c) (ht : TmK W t A2 c2) (hz : s.size + t.size ≤ 1073741824) : ∀ w1, Below W.heap.size W w1 →
    Calls Try.prog 30 #[.agg #[.bool o.lpo, .slice P o.prec.length pc, .slice Q o.wts.length qc, .int .i64 o.var], .agg #[.int .i64 s.fn, .slice A s.args.length c], .agg #[.int .i64 t.fn, .slice A2 t.args.length c2]] w1 fun e w' => e = .returned (.int .i64 (cmpP o.prec s t)) ∧ Below w1.heap.size w1 w' := fun w1 hb => by
  exact lpoCmp_any o s t P Q A A2 pc qc c c2 w1 (hM.on hb) hrk hs.i64 ht.i64 hz (hs.on hb).args (ht.on hb).args

theorem lpoAbove_at {W : World} {o : Odr} {s t : Tm} {P Q A A2 : Option Addr} {pc qc c c2 : Nat} (hrk : o.prec.length ≤ 140737488351232) (hM : OdrM W W.heap.size o P Q) (hs : TmK W s A c) (ht : TmK W t A2 c2) (hz : s.size + t.size ≤ 1073741824) : ∀ w1, Below W.heap.size W w1 →
    Calls Try.prog 31 #[.agg #[.bool o.lpo, .slice P o.prec.length pc, .slice Q o.wts.length qc, .int .i64 o.var], .agg #[.int .i64 s.fn, .slice A s.args.length c], .agg #[.int .i64 t.fn, .slice A2 t.args.length c2]] w1 fun e w' => e = .returned (.bool (cmpP o.prec s t == 3)) ∧ Below w1.heap.size w1 w' := fun w1 hb => by
  exact lpoAbove_any o s t P Q A A2 pc qc c c2 w1 (hM.on hb) hrk hs.i64 ht.i64 hz (hs.on hb).args (ht.on hb).args

end Go.Proofs.Ytnmpeodngipfcaa

/- boxes of a signature, an order and three terms -/

namespace Go.Proofs.Ytnmpeodngipfcaa

open Go.RowKit Go.Shelf Go.Maps
set_option maxRecDepth 100000
set_option maxRecDepth 100000

/-- The boxes of a signature, an order and three terms. -/
structure Box5 (w : World) (b : Nat) (o : Odr) (s t u : Tm) (As P Q A A2 A3 : Option Addr) (n cs pc qc c c2 c3 : Nat) : Prop where
  so : BoxSO w b o As P Q n cs pc qc
  s0 : w.cell? ⟨b + 2, 0, none⟩ = some (.int .i64 s.fn)
  s1 : w.cell? ⟨b + 2, 1, none⟩ = some (.slice A s.args.length c)
  t0 : w.cell? ⟨b + 3, 0, none⟩ = some (.int .i64 t.fn)
  t1 : w.cell? ⟨b + 3, 1, none⟩ = some (.slice A2 t.args.length c2)
  u0 : w.cell? ⟨b + 4, 0, none⟩ = some (.int .i64 u.fn)
  u1 : w.cell? ⟨b + 4, 1, none⟩ = some (.slice A3 u.args.length c3)

theorem box5_of {w W : World} {o : Odr} {s t u : Tm} {As P Q A A2 A3 : Option Addr} {n cs pc qc c c2 c3 : Nat} (hW : (((((w.alloc (.cells #[.slice As n cs] 36)).alloc (.cells #[.bool o.lpo, .slice P o.prec.length pc, .slice Q o.wts.length qc, .int .i64 o.var] 24)).alloc (.cells #[.int .i64 s.fn, .slice A s.args.length c] 27)).alloc (.cells #[.int .i64 t.fn, .slice A2 t.args.length c2] 27)).alloc (.cells #[.int .i64 u.fn, .slice A3 u.args.length c3] 27)) = W) : Below w.heap.size w W ∧ ∀ w1, Below W.heap.size W w1 → Box5 w1 w.heap.size o s t u As P Q A A2 A3 n cs pc qc c c2 c3 := by
  obtain ⟨q0, q1, q2, q3, q4⟩ := heap5 w (.cells #[.slice As n cs] 36) (.cells #[.bool o.lpo, .slice P o.prec.length pc, .slice Q o.wts.length qc, .int .i64 o.var] 24) (.cells #[.int .i64 s.fn, .slice A s.args.length c] 27) (.cells #[.int .i64 t.fn, .slice A2 t.args.length c2] 27) (.cells #[.int .i64 u.fn, .slice A3 u.args.length c3] 27)
  rw [hW] at q0 q1 q2 q3 q4
  have hz : w.heap.size + 5 = W.heap.size := by rw [← hW]; simp
  refine ⟨by rw [← hW]; exact below5 _ _ _ _ _ _, fun w1 hb => ?_⟩
  obtain ⟨a0, a1, _, _⟩ := cells_two ((hb.block _ (by omega)).trans q2)
  obtain ⟨b0, b1, _, _⟩ := cells_two ((hb.block _ (by omega)).trans q3)
  obtain ⟨d0, d1, _, _⟩ := cells_two ((hb.block _ (by omega)).trans q4)
  exact ⟨boxSO_of ((hb.block _ (by omega)).trans q0) ((hb.block _ (by omega)).trans q1), a0, a1, b0, b1, d0, d1⟩

end Go.Proofs.Ytnmpeodngipfcaa

/- Compare, Same. -/

namespace Go.Proofs.Ytnmpeodngipfcaa

open Go.RowKit
set_option maxRecDepth 100000

end Go.Proofs.Ytnmpeodngipfcaa

/- Compare, Same. -/

namespace Go.Proofs.Ytnmpeodngipfcaa

open Go.RowKit
set_option maxRecDepth 100000

theorem cmpT_h {f g : Int} {xs ys : List Tm} (h : ¬ headI f g = 0) : cmpT (.node f xs) (.node g ys) = headI f g := (cmpT_eq _ _).trans (if_pos h)

theorem cmpT_c {f g : Int} {xs ys : List Tm} (h : headI f g = 0) (h1 : ¬ cmpL xs ys = 0) : cmpT (.node f xs) (.node g ys) = cmpL xs ys := (cmpT_eq _ _).trans ((if_neg (fun e => e h)).trans (if_pos h1))

theorem cmpT_n {f g : Int} {xs ys : List Tm} (h : headI f g = 0) (h1 : cmpL xs ys = 0) : cmpT (.node f xs) (.node g ys) = numI xs.length ys.length := (cmpT_eq _ _).trans ((if_neg (fun e => e h)).trans (if_neg (fun e => e h1)))

end Go.Proofs.Ytnmpeodngipfcaa

/- The document's own answers: Compare, Same. -/

namespace Go.Proofs.Ytnmpeodngipfcaa

open Go.RowKit
set_option maxRecDepth 100000

def RCmp (t : Tm) : Prop := ∀ (u : Tm) (A A2 : Option Addr) (c c2 : Nat) (w : World), I64 t.fn → I64 u.fn → Args w w.heap.size A t.args → Args w w.heap.size A2 u.args →
  Calls Try.prog 49 #[.agg #[.int .i64 t.fn, .slice A t.args.length c], .agg #[.int .i64 u.fn, .slice A2 u.args.length c2]] w fun e w' => e = .returned (.int .i64 (cmpT t u)) ∧ Below w.heap.size w w'

theorem head_ne {f g : Int} (h : f ≠ g) : headI f g = if f < 0 ∧ g < 0 then (if g < f then -1 else 1) else if f < g then -1 else 1 := by unfold headI; rw [if_neg h]

theorem head_nz {f g : Int} (h : f ≠ g) : ¬ headI f g = 0 := by
  rw [head_ne h]
  split
  · split <;> omega
  · split <;> omega

set_option maxHeartbeats 2000000 in
theorem ref2Cmp_any (t : Tm) : RCmp t := by
  refine Tm.ind (P := RCmp) (fun f xs ih => ?_) t
  intro u A A2 c c2 w hf hg hA hA2
  obtain ⟨g, ys⟩ := u
  simp only [Tm.fn, Tm.args] at hf hg hA hA2 ⊢
  have hl1 := hA.len
  have hl2 := hA2.len
  obtain ⟨p0, p1⟩ := heap2 w (.cells #[.int .i64 f, .slice A xs.length c] 27) (.cells #[.int .i64 g, .slice A2 ys.length c2] 27)
  obtain ⟨W, hW⟩ : ∃ W, ((w.alloc (.cells #[.int .i64 f, .slice A xs.length c] 27)).alloc (.cells #[.int .i64 g, .slice A2 ys.length c2] 27)) = W := ⟨_, rfl⟩
  have hB : Below w.heap.size w W := by rw [← hW]; exact ((Below.refl _ _).alloc (Nat.le_refl _) _).alloc (by simp) _
  rw [hW] at p0 p1
  have hWs : w.heap.size + 1 < W.heap.size := (Array.getElem?_eq_some_iff.1 p1).1
  have HW := Lib.hid hW
  have hA' := Lib.hid (hA.on hB)
  have hA2' := Lib.hid (hA2.on hB)
  have hSS : ∀ w', Below W.heap.size W w' → w'.cell? ⟨w.heap.size, 0, none⟩ = some (.int .i64 f) ∧ w'.cell? ⟨w.heap.size, 1, none⟩ = some (.slice A xs.length c) ∧ w'.cell? ⟨w.heap.size + 1, 0, none⟩ = some (.int .i64 g) ∧ w'.cell? ⟨w.heap.size + 1, 1, none⟩ = some (.slice A2 ys.length c2) := fun w' h =>
    ⟨(cells_two ((h.block _ (by omega)).trans p0)).1, (cells_two ((h.block _ (by omega)).trans p0)).2.1, (cells_two ((h.block _ hWs).trans p1)).1, (cells_two ((h.block _ hWs).trans p1)).2.1⟩
  obtain ⟨x0, x1, x2, x3⟩ := hSS W (Below.refl _ _)
  clear hW hA hA2 p0 p1
  by_cases hfg : f = g
  · subst hfg
    have hh : headI f f = 0 := by unfold headI; rw [if_pos rfl]
    go_enter Try.func49, Try.ntmps49
    go_upto_region 1 with fail
    rw [HW.out]
    go_wp2
    clear x0 x1 x2 x3
    go_loopw [5] (fun i wr => ∃ k : Nat, k ≤ xs.length ∧ k ≤ ys.length ∧ i = .int .i64 (k : Int) ∧ Below W.heap.size W wr ∧ Hid (∀ (j : Nat) (x y : Tm), j < k → xs[j]? = some x → ys[j]? = some y → cmpT x y = 0)) (fun i _ => xs.length - (intOf i).toNat)
    case atStart => exact ⟨0, Nat.zero_le _, Nat.zero_le _, rfl, Below.refl _ _, fun j x y h => by omega⟩
    case round =>
      obtain ⟨k, hk, hk2, rfl, hBr, H⟩ := hrel
      obtain ⟨_, x1, _, x3⟩ := hSS _ hBr
      by_cases hkl : k < xs.length ∧ k < ys.length
      · obtain ⟨hkx, hky⟩ := hkl
        obtain ⟨a, ha⟩ : ∃ a, xs[k]? = some a := ⟨_, List.getElem?_eq_getElem hkx⟩
        obtain ⟨b, hb⟩ : ∃ b, ys[k]? = some b := ⟨_, List.getElem?_eq_getElem hky⟩
        obtain ⟨bb, off, A', c', rfl, h1⟩ := (hA'.out.on hBr).get ha
        obtain ⟨bb2, off2, A2', c2', rfl, h2⟩ := (hA2'.out.on hBr).get hb
        have a0 := h1.c0
        have a1 := h1.c1
        have b0 := h2.c0
        have b1 := h2.c1
        have q1 := h1.hb
        have q2 := h2.hb
        have i1 := h1.hi
        have i2 := h2.hi
        have s1 : Hid (Args wr.drew wr.drew.heap.size A' a.args) := h1.sub.drewN 1
        have s2 : Hid (Args wr.drew wr.drew.heap.size A2' b.args) := h2.sub.drewN 1
        have Hab := Lib.hid (And.intro ha hb)
        have hia := ih a (List.mem_of_getElem? ha)
        clear ha hb h1 h2
        by_cases h0 : cmpT a b = 0
        · go_wp2
          go_region_held3 (fun w' => w'.cell? ⟨w.heap.size, 1, none⟩ = some (.slice (some ⟨bb, off, none⟩) xs.length c) ∧ w'.cell? ⟨w.heap.size + 1, 1, none⟩ = some (.slice (some ⟨bb2, off2, none⟩) ys.length c2) ∧ w'.cell? ⟨bb, off + k * 2, none⟩ = some (.int .i64 a.fn) ∧ w'.cell? ⟨bb, off + k * 2 + 1, none⟩ = some (.slice A' a.args.length c') ∧ w'.cell? ⟨bb2, off2 + k * 2, none⟩ = some (.int .i64 b.fn) ∧ w'.cell? ⟨bb2, off2 + k * 2 + 1, none⟩ = some (.slice A2' b.args.length c2'))
            (first | exact ⟨x1, x3, a0, a1, b0, b1⟩ | exact ⟨(hSS _ hB1).2.1, (hSS _ hB1).2.2.2, cell_on hb1 q1 a0, cell_on hb1 q1 a1, cell_on hb1 q2 b0, cell_on hb1 q2 b1⟩ | fail)
            (first
              | (go_at_call 49; refine (hia b A' A2' c' c2' wr.drew i1 i2 s1.out s2.out).mono ?_; rintro e w1 ⟨rfl, hb1'⟩; have hb1 : Below wr.heap.size wr w1 := ⟨hb1'.os, hb1'.tape, hb1'.output, hb1'.size, hb1'.block⟩; have hB1 := bl_step hBr hb1; rw [h0])
              | fail)
          go_wp2
          go_roundw
          case rel =>
            refine ⟨k + 1, by omega, by omega, by go_num, hB1, fun j x y hj hx hy => ?_⟩
            by_cases e : j = k
            · subst e
              obtain ⟨e1, e2⟩ := Hab.out
              rw [hx] at e1; rw [hy] at e2
              cases e1; cases e2
              exact h0
            · exact H.out j x y (by omega) hx hy
          case measure => simp [intOf]; omega
        · have hcl := cmpL_hit Hab.out.1 Hab.out.2 H.out h0
          have hh2 := Lib.hid (show cmpT (.node f xs) (.node f ys) = cmpT a b by rw [cmpT_c hh (by rw [hcl]; exact h0), hcl])
          clear hcl
          go_wp2
          go_region_held3 (fun w' => w'.cell? ⟨w.heap.size, 1, none⟩ = some (.slice (some ⟨bb, off, none⟩) xs.length c) ∧ w'.cell? ⟨w.heap.size + 1, 1, none⟩ = some (.slice (some ⟨bb2, off2, none⟩) ys.length c2) ∧ w'.cell? ⟨bb, off + k * 2, none⟩ = some (.int .i64 a.fn) ∧ w'.cell? ⟨bb, off + k * 2 + 1, none⟩ = some (.slice A' a.args.length c') ∧ w'.cell? ⟨bb2, off2 + k * 2, none⟩ = some (.int .i64 b.fn) ∧ w'.cell? ⟨bb2, off2 + k * 2 + 1, none⟩ = some (.slice A2' b.args.length c2'))
            (first | exact ⟨x1, x3, a0, a1, b0, b1⟩ | exact ⟨(hSS _ hB1).2.1, (hSS _ hB1).2.2.2, cell_on hb1 q1 a0, cell_on hb1 q1 a1, cell_on hb1 q2 b0, cell_on hb1 q2 b1⟩ | fail)
            (first
              | (go_at_call 49; refine (hia b A' A2' c' c2' wr.drew i1 i2 s1.out s2.out).mono ?_; rintro e w1 ⟨rfl, hb1'⟩; have hb1 : Below wr.heap.size wr w1 := ⟨hb1'.os, hb1'.tape, hb1'.output, hb1'.size, hb1'.block⟩; have hB1 := bl_step hBr hb1)
              | fail)
          go_wp2
          go_ret
          exact ⟨ret_int hh2.out.symm, hB.trans (hB1.mono hB.size)⟩
      · have hcl : cmpL xs ys = 0 := cmpL_miss fun j x y hx hy => H.out j x y (by have h1 := (List.getElem?_eq_some_iff.1 hx).1; have h2 := (List.getElem?_eq_some_iff.1 hy).1; omega) hx hy
        have hh2 := Lib.hid (cmpT_n hh hcl : cmpT (.node f xs) (.node f ys) = numI xs.length ys.length)
        clear hcl
        rcases Nat.lt_trichotomy xs.length ys.length with h | h | h
        · have e : numI xs.length ys.length = -1 := by unfold numI; rw [if_pos (by omega)]
          have e := Lib.hid e
          go_wp2
          go_ret
          exact ⟨ret_int (by rw [hh2.out, e.out]), hB.trans (hBr.mono hB.size)⟩
        · have e : numI xs.length ys.length = 0 := by unfold numI; rw [if_neg (by omega), if_neg (by omega)]
          have e := Lib.hid e
          go_wp2
          go_ret
          exact ⟨ret_int (by rw [hh2.out, e.out]), hB.trans (hBr.mono hB.size)⟩
        · have e : numI xs.length ys.length = 1 := by unfold numI; rw [if_neg (by omega), if_pos (by omega)]
          have e := Lib.hid e
          go_wp2
          go_ret
          exact ⟨ret_int (by rw [hh2.out, e.out]), hB.trans (hBr.mono hB.size)⟩
  · have hh := Lib.hid ((cmpT_h (head_nz hfg) : cmpT (.node f xs) (.node g ys) = headI f g).trans (head_ne hfg))
    by_cases h1 : f < 0 ∧ g < 0
    · obtain ⟨h1, h2⟩ := h1
      by_cases h3 : g < f
      all_goals
        go_enter Try.func49, Try.ntmps49
        go_upto_region 1 with fail
        rw [HW.out]
        go_wp2
        go_ret
        exact ⟨ret_int (by rw [hh.out, if_pos ⟨h1, h2⟩]; first | rw [if_pos (by omega)] | rw [if_neg (by omega)]), hB⟩
    · by_cases h2 : f < 0
      · have h3 : ¬ g < 0 := fun e => h1 ⟨h2, e⟩
        have h4 : f < g := by omega
        go_enter Try.func49, Try.ntmps49
        go_upto_region 1 with fail
        rw [HW.out]
        go_wp2
        go_ret
        exact ⟨ret_int (by rw [hh.out, if_neg h1, if_pos h4]), hB⟩
      · by_cases h4 : f < g
        all_goals
          go_enter Try.func49, Try.ntmps49
          go_upto_region 1 with fail
          rw [HW.out]
          go_wp2
          go_ret
          exact ⟨ret_int (by rw [hh.out, if_neg h1]; first | rw [if_pos (by omega)] | rw [if_neg (by omega)]), hB⟩

theorem ref2Cmp_at (t u : Tm) (A A2 : Option Addr) (c c2 : Nat) (w : World) (hf : I64 t.fn) (hg : I64 u.fn) (hA : Args w w.heap.size A t.args) (hA2 : Args w w.heap.size A2 u.args) :
    Calls Try.prog 49 #[.agg #[.int .i64 t.fn, .slice A t.args.length c], .agg #[.int .i64 u.fn, .slice A2 u.args.length c2]] w fun e w' => e = .returned (.int .i64 (cmpT t u)) ∧ Below w.heap.size w w' :=
  ref2Cmp_any t u A A2 c c2 w hf hg hA hA2

theorem ref2Same_any' (t u : Tm) (A A2 : Option Addr) (c c2 : Nat) (w : World) (hf : I64 t.fn) (hg : I64 u.fn) (hA : Args w w.heap.size A t.args) (hA2 : Args w w.heap.size A2 u.args) :
    Calls Try.prog 22 #[.agg #[.int .i64 t.fn, .slice A t.args.length c], .agg #[.int .i64 u.fn, .slice A2 u.args.length c2]] w fun e w' => e = .returned (.bool (decide (cmpT t u = 0))) ∧ Below w.heap.size w w' := by
  have hWB : Below w.heap.size w ((w.alloc (.cells #[.int .i64 t.fn, .slice A t.args.length c] 27)).alloc (.cells #[.int .i64 u.fn, .slice A2 u.args.length c2] 27)) := ((Below.refl _ _).alloc (Nat.le_refl _) _).alloc (by simp) _
  go_enter Try.func22, Try.ntmps22
  go_wp2_with (first
    | (go_at_call 49; refine (ref2Cmp_at t u A A2 c c2 _ hf hg (hA.on hWB) (hA2.on hWB)).mono ?_; rintro e w1 ⟨rfl, hb1⟩; have hB1 := bl_step hWB hb1)
    | fail)
  go_ret
  exact ⟨rfl, hB1⟩

end Go.Proofs.Ytnmpeodngipfcaa

