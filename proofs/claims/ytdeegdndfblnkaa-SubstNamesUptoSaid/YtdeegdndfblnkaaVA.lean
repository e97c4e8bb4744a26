/- Same of substitutions; plain, plainIn. plain, plainIn: no variable has arguments. -/
import Derived.Test.YtdeegdndfblnkaaUA
import Derived.Test.YtdeegdndfblnkaaT3
namespace Go.Proofs.Ytdeegdndfblnkaa
open Go.RowKit Go.Shelf
set_option maxRecDepth 100000

set_option maxHeartbeats 1000000 in
theorem same1_any (x y : Bd) (A A2 : Option Addr) (c c2 : Nat) (w : World) (hx : I64 x.t.fn) (hy : I64 y.t.fn) (hA : Args w w.heap.size A x.t.args) (hA2 : Args w w.heap.size A2 y.t.args) :
    Calls Try.prog 53 #[.agg #[.int .i64 x.v, .int .i64 x.t.fn, .slice A x.t.args.length c], .agg #[.int .i64 y.v, .int .i64 y.t.fn, .slice A2 y.t.args.length c2]] w fun e w' => e = .returned (.bool (decide (x.v = y.v) && decide (cmpT x.t y.t = 0))) ∧ Below w.heap.size w w' := by
  have hWB : Below w.heap.size w ((w.alloc (.cells #[.int .i64 x.v, .int .i64 x.t.fn, .slice A x.t.args.length c] 77)).alloc (.cells #[.int .i64 y.v, .int .i64 y.t.fn, .slice A2 y.t.args.length c2] 77)) := ((Below.refl _ _).alloc (Nat.le_refl _) _).alloc (by simp) _
  have HS := Lib.hid (termSame_any x.t y.t A A2 c c2 _ hx hy (hA.on hWB) (hA2.on hWB))
  clear hA hA2
  by_cases hv : x.v = y.v
  · have hv' : ((x.v : Int) == y.v) = true := by simp [hv]
    have hv2 := Lib.hid (decide_eq_true hv)
    clear hv
    go_enter Try.func53, Try.ntmps53
    go_wp2_with (first
      | (go_at_call 54; refine HS.out.mono ?_; go_must (rintro e w1 ⟨rfl, hb1⟩; have hB1 := bl_step hWB hb1))
      | fail)
    go_ret
    exact ⟨ret_bool (by rw [hv2.out, Bool.true_and]), hB1⟩
  · have hv' : ((x.v : Int) == y.v) = false := by simp [hv]
    have hv2 := Lib.hid (decide_eq_false hv)
    clear hv
    go_enter Try.func53, Try.ntmps53
    go_wp2
    go_ret
    exact ⟨ret_bool (by rw [hv2.out, Bool.false_and]), hWB⟩

set_option maxHeartbeats 2000000 in
theorem equalFunc_any (la lb : List Bd) (A A2 : Option Addr) (c c2 : Nat) (w : World) (hA : Binds w (· < w.heap.size) A la) (hA2 : Binds w (· < w.heap.size) A2 lb) :
    Calls Try.prog 52 #[.slice A la.length c, .slice A2 lb.length c2, .func (.func 53) #[] #[]] w fun e w' => e = .returned (.bool (sameB la lb)) ∧ Below w.heap.size w w' := by
  have hl1 := hA.len
  have hl2 := hA2.len
  by_cases hlen : la.length = lb.length
  · have HA := Lib.hid hA
    have HA2 := Lib.hid hA2
    have HI0 := Lib.hid (SameI.start hlen)
    have HL := Lib.hid hlen
    have hne : ((la.length : Int) != (lb.length : Int)) = false := by rw [hlen]; simp
    clear hA hA2 hlen
    go_enter Try.func52, Try.ntmps52
    go_wp2
    go_loopw [17] (fun i wr => ∃ k : Nat, k ≤ la.length ∧ i = .int .i64 (k : Int) ∧ Below w.heap.size w wr ∧ Hid (SameI la lb k)) (fun i _ => la.length - (intOf i).toNat)
    case atStart => exact ⟨0, Nat.zero_le _, rfl, Below.refl _ _, HI0⟩
    case round =>
      obtain ⟨k, hk, rfl, hBr, H⟩ := hrel
      by_cases hlt : k < la.length
      · obtain ⟨x, hx⟩ : ∃ x, la[k]? = some x := ⟨_, List.getElem?_eq_getElem hlt⟩
        obtain ⟨y, hy⟩ : ∃ y, lb[k]? = some y := ⟨_, List.getElem?_eq_getElem (by have := HL.out; omega)⟩
        obtain ⟨b, off, A', c', rfl, h⟩ := HA.out.get hx
        obtain ⟨b2, off2, A2', c2', rfl, h2⟩ := HA2.out.get hy
        have e0 := cell_on hBr h.hb h.c0
        have e1 := cell_on hBr h.hb h.c1
        have e2 := cell_on hBr h.hb h.c2
        obtain ⟨q0, q1⟩ := heap2 wr (.cells #[.int .i64 x.v, .int .i64 x.t.fn, .slice A' x.t.args.length c'] 77) (.cells #[.int .i64 y.v, .int .i64 y.t.fn, .slice A2' y.t.args.length c2'] 77)
        have hBx : Below wr.heap.size wr ((wr.alloc (.cells #[.int .i64 x.v, .int .i64 x.t.fn, .slice A' x.t.args.length c'] 77)).alloc (.cells #[.int .i64 y.v, .int .i64 y.t.fn, .slice A2' y.t.args.length c2'] 77)) := ((Below.refl _ _).alloc (Nat.le_refl _) _).alloc (by simp) _
        have hB1 : Below w.heap.size w (wr.alloc (.cells #[.int .i64 x.v, .int .i64 x.t.fn, .slice A' x.t.args.length c'] 77)) := hBr.alloc hBr.size _
        have d0 := cell_on hB1 h2.hb h2.c0
        have d1 := cell_on hB1 h2.hb h2.c1
        have d2 := cell_on hB1 h2.hb h2.c2
        obtain ⟨W, hW⟩ : ∃ W, ((wr.alloc (.cells #[.int .i64 x.v, .int .i64 x.t.fn, .slice A' x.t.args.length c'] 77)).alloc (.cells #[.int .i64 y.v, .int .i64 y.t.fn, .slice A2' y.t.args.length c2'] 77)) = W := ⟨_, rfl⟩
        rw [hW] at q0 q1 hBx
        obtain ⟨f0, f1, f2, _, _, _⟩ := cells_three q0
        obtain ⟨g0, g1, g2, _, _, _⟩ := cells_three q1
        have hBW := hBr.trans (hBx.mono hBr.size)
        have HS := Lib.hid (same1_any x y A' A2' c' c2' W h.it h2.it ((h.sub.keep fun g e => hBW.block g e).args fun g e => Nat.lt_of_lt_of_le e hBW.size) ((h2.sub.keep fun g e => hBW.block g e).args fun g e => Nat.lt_of_lt_of_le e hBW.size))
        have HW := Lib.hid hW
        have Hx := Lib.hid hx
        have Hy := Lib.hid hy
        have hkl2 : (k : Int) < (lb.length : Int) := by have := HL.out; omega
        clear hx hy h h2 hW
        go_upto_region 7 with fail
        rw [HW.out]
        clear e0 e1 e2 d0 d1 d2
        by_cases hc : x.v = y.v ∧ cmpT x.t y.t = 0
        · have hc' := Lib.hid (show (decide (x.v = y.v) && decide (cmpT x.t y.t = 0)) = true by simpa using hc)
          have hnx := Lib.hid (H.out.next Hx.out Hy.out hc.1 hc.2)
          clear hc
          go_wp2_with (first
            | (go_at_call 53; refine HS.out.mono ?_; go_must (rintro e w1 ⟨rfl, hb1⟩; rw [hc'.out]))
            | fail)
          have hBz := hBW.trans (hb1.mono hBW.size)
          first
            | (go_roundw
               case rel => exact ⟨k + 1, by omega, by go_num, hBz, hnx⟩
               case measure => simp [intOf]; omega)
            | exact ⟨⟨k + 1, by omega, by go_num, hBz, hnx⟩, by simp [intOf]; omega⟩
        · have hc' := Lib.hid (show (decide (x.v = y.v) && decide (cmpT x.t y.t = 0)) = false by
            rw [← Bool.not_eq_true]; simpa using hc)
          have hres : Hid (sameB la lb = false) := Lib.hid (by
            by_cases hv : x.v = y.v
            · exact H.out.no2 Hx.out Hy.out fun h => hc ⟨hv, h⟩
            · exact H.out.no1 Hx.out Hy.out hv)
          clear hc
          go_wp2_with (first
            | (go_at_call 53; refine HS.out.mono ?_; go_must (rintro e w1 ⟨rfl, hb1⟩; rw [hc'.out]))
            | fail)
          go_ret
          exact ⟨ret_bool hres.out.symm, hBW.trans (hb1.mono hBW.size)⟩
      · obtain rfl : k = la.length := by omega
        have hres := Lib.hid (H.out.done (Nat.le_refl _))
        go_wp2
        go_ret
        exact ⟨ret_bool hres.out.symm, hBr⟩
  · have hne : ((la.length : Int) != (lb.length : Int)) = true := by
      simp only [bne_iff_ne, ne_eq]; omega
    have hres : Hid (sameB la lb = false) := Lib.hid (by
      rcases h : sameB la lb with _ | _
      · rfl
      · exact absurd (sameB_len h) hlen)
    clear hlen hA hA2
    go_enter Try.func52, Try.ntmps52
    go_wp2
    go_ret
    exact ⟨ret_bool hres.out.symm, Below.refl _ _⟩

theorem subSame_any (la lb : List Bd) (A A2 : Option Addr) (c c2 : Nat) (w : World) (hA : Binds w (· < w.heap.size) A la) (hA2 : Binds w (· < w.heap.size) A2 lb) :
    Calls Try.prog 18 #[.slice A la.length c, .slice A2 lb.length c2] w fun e w' => e = .returned (.bool (sameB la lb)) ∧ Below w.heap.size w w' := by
  have H := Lib.hid (equalFunc_any la lb A A2 c c2 w hA hA2)
  clear hA hA2
  go_enter Try.func18, Try.ntmps18
  go_wp2_with (first
    | (go_at_call 52; refine H.out.mono ?_; go_must (rintro e w1 ⟨rfl, hb1⟩))
    | fail)
  go_ret
  exact ⟨rfl, hb1⟩
end Go.Proofs.Ytdeegdndfblnkaa

namespace Go.Proofs.Ytdeegdndfblnkaa
open Go.RowKit Go.Shelf
set_option maxRecDepth 100000

mutual
/-- No variable has arguments. -/
def plainT : Tm → Bool
  | .node f xs => plainL xs && (decide (0 ≤ f) || decide (xs.length = 0))
def plainL : List Tm → Bool
  | [] => true
  | t :: ts => plainT t && plainL ts
end
theorem plainL_eq : ∀ xs : List Tm, plainL xs = xs.all plainT
  | [] => by simp only [plainL, List.all_nil]
  | t :: ts => by simp only [plainL, plainL_eq ts, List.all_cons]

def PlainAt (t : Tm) : Prop := ∀ (A : Option Addr) (c : Nat) (w : World), I64 t.fn → Args w w.heap.size A t.args →
  Calls Try.prog 29 #[.agg #[.int .i64 t.fn, .slice A t.args.length c]] w fun e w' => e = .returned (.bool (plainT t)) ∧ Below w.heap.size w w'

set_option maxHeartbeats 1000000 in
theorem plain_any (t : Tm) : PlainAt t := by
  refine Tm.ind (P := PlainAt) (fun f xs ih => ?_) t
  intro A c w hf hA
  simp only [Tm.fn, Tm.args] at hf hA ⊢
  have hlen := hA.len
  have q0 := heap_alloc_new w (.cells #[.int .i64 f, .slice A xs.length c] 31)
  obtain ⟨W, hW⟩ : ∃ W, w.alloc (.cells #[.int .i64 f, .slice A xs.length c] 31) = W := ⟨_, rfl⟩
  have hB : Below w.heap.size w W := by rw [← hW]; exact (Below.refl _ _).alloc (Nat.le_refl _) _
  rw [hW] at q0
  have hWs : w.heap.size < W.heap.size := (Array.getElem?_eq_some_iff.1 q0).1
  obtain ⟨x0, x1, _, _⟩ := cells_two q0
  have HA := Lib.hid hA
  have HW := Lib.hid hW
  have hpl := Lib.hid (plainL_eq xs)
  clear hA hW
  go_enter Try.func29, Try.ntmps29
  go_upto_region 1 with fail
  rw [HW.out]
  go_wp2
  go_loopw [7] (fun i wr => ∃ k : Nat, k ≤ xs.length ∧ i = .int .i64 (k : Int) ∧ Below W.heap.size W wr ∧ Hid (∀ u ∈ xs.take k, plainT u = true)) (fun i _ => xs.length - (intOf i).toNat)
  case atStart => exact ⟨0, Nat.zero_le _, rfl, Below.refl _ _, Lib.hid fun u hu => by simp at hu⟩
  case round =>
    obtain ⟨k, hk, rfl, hBr, Hn⟩ := hrel
    obtain ⟨a0, a1, _, _⟩ := cells_two ((hBr.block _ hWs).trans q0)
    have hBw : Below w.heap.size w wr := hB.trans (hBr.mono hB.size)
    clear x0 x1
    by_cases hlt : k < xs.length
    · obtain ⟨u, hu⟩ : ∃ u, xs[k]? = some u := ⟨_, List.getElem?_eq_getElem hlt⟩
      obtain ⟨bb, off, A1, c1, rfl, ha⟩ := HA.out.get hu
      have e0 := cell_on hBw ha.hb ha.c0
      have e1 := cell_on hBw ha.hb ha.c1
      have hcall := Lib.hid (ih u (List.mem_of_getElem? hu) A1 c1 wr ha.hi (ha.sub.on hBw))
      have Hu := Lib.hid hu
      clear hu ha
      rcases hp : plainT u with _ | _
      · have hp' := Lib.hid hp
        have hres : Hid (plainT (.node f xs) = false) := Lib.hid (by
          simp only [plainT]
          rw [hpl.out, show xs.all plainT = false from List.all_eq_false.2 ⟨u, List.mem_of_getElem? Hu.out, by simp [hp]⟩, Bool.false_and])
        clear hp
        go_wp2_with (first
          | (go_at_call 29; (with_reducible refine hcall.out.mono ?_); go_must (rintro e w1 ⟨rfl, hb1⟩; rw [hp'.out]))
          | fail)
        go_ret
        exact ⟨ret_bool hres.out.symm, hBw.trans (hb1.mono hBw.size)⟩
      · have hp' := Lib.hid hp
        have hn2 : Hid (∀ y ∈ xs.take (k + 1), plainT y = true) := Lib.hid fun y hy => by
          rw [List.take_add_one, Hu.out] at hy
          rcases List.mem_append.1 hy with hy | hy
          · exact Hn.out y hy
          · simp at hy; subst hy; exact hp
        clear hp
        go_wp2_with (first
          | (go_at_call 29; (with_reducible refine hcall.out.mono ?_); go_must (rintro e w1 ⟨rfl, hb1⟩; rw [hp'.out]))
          | fail)
        have hB1 := hBr.trans (hb1.mono hBr.size)
        first
          | (go_roundw
             case rel => exact ⟨k + 1, by omega, by go_num, hB1, hn2⟩
             case measure => simp [intOf]; omega)
          | exact ⟨⟨k + 1, by omega, by go_num, hB1, hn2⟩, by simp [intOf]; omega⟩
    · obtain rfl : k = xs.length := by omega
      have hres : Hid (plainT (.node f xs) = (decide (0 ≤ f) || decide (xs.length = 0))) := Lib.hid (by
        have hn := Hn.out
        rw [List.take_length] at hn
        simp only [plainT]
        rw [hpl.out, show xs.all plainT = true from List.all_eq_true.2 hn, Bool.true_and])
      by_cases h0 : 0 ≤ f
      · have h0' : decide (f ≥ 0) = true := decide_eq_true h0
        go_wp2
        go_ret
        exact ⟨ret_bool (by rw [hres.out, decide_eq_true h0, Bool.true_or]), hBw⟩
      · have h0' : decide (f ≥ 0) = false := decide_eq_false h0
        go_wp2
        go_ret
        exact ⟨ret_bool (by rw [hres.out, decide_eq_false (show ¬ 0 ≤ f by omega), Bool.false_or, Bool.eq_iff_iff]; simp), hBw⟩