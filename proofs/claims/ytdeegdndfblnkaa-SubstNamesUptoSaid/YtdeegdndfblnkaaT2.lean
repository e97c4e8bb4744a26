/- Compare, Same. -/
import Derived.Test.YtdeegdndfblnkaaT1
namespace Go.Proofs.Ytdeegdndfblnkaa
open Go.RowKit
set_option maxRecDepth 100000

/-- What Compare does at this term, whatever the other one. -/
def CmpAt (t : Tm) : Prop := ∀ (u : Tm) (A A2 : Option Addr) (c c2 : Nat) (w : World), I64 t.fn → I64 u.fn → Args w w.heap.size A t.args → Args w w.heap.size A2 u.args →
  Calls Try.prog 96 #[.agg #[.int .i64 t.fn, .slice A t.args.length c], .agg #[.int .i64 u.fn, .slice A2 u.args.length c2]] w fun e w' => e = .returned (.int .i64 (cmpT t u)) ∧ Below w.heap.size w w'

set_option maxHeartbeats 1000000 in
theorem arguments_any (f g : Int) (xs ys : List Tm) (A A2 : Option Addr) (c c2 k : Nat) (a b : Tm) (w : World) (ih : CmpAt a) (hx : xs[k]? = some a) (hy : ys[k]? = some b) (hA : Args w w.heap.size A xs) (hA2 : Args w w.heap.size A2 ys) :
    Calls Try.prog 126 #[.agg #[.int .i64 f, .slice A xs.length c, .int .i64 g, .slice A2 ys.length c2], .int .i64 (k : Int)] w fun e w' => e = .returned (.int .i64 (cmpT a b)) ∧ Below w.heap.size w w' := by
  have hk1 : k < xs.length := (List.getElem?_eq_some_iff.1 hx).1
  have hk2 : k < ys.length := (List.getElem?_eq_some_iff.1 hy).1
  obtain ⟨bb, off, A', c', rfl, h1⟩ := hA.get hx
  obtain ⟨bb2, off2, A2', c2', rfl, h2⟩ := hA2.get hy
  have hl1 := hA.len
  have hl2 := hA2.len
  have hBW : Below w.heap.size w (w.alloc (.cells #[.int .i64 f, .slice (some ⟨bb, off, none⟩) xs.length c, .int .i64 g, .slice (some ⟨bb2, off2, none⟩) ys.length c2] 149)) := (Below.refl _ _).alloc (Nat.le_refl _) _
  go_enter Try.func126, Try.ntmps126
  go_wp2
  obtain ⟨W, hW⟩ : ∃ W, w.alloc (.cells #[.int .i64 f, .slice (some ⟨bb, off, none⟩) xs.length c, .int .i64 g, .slice (some ⟨bb2, off2, none⟩) ys.length c2] 149) = W := ⟨_, rfl⟩
  rw [hW] at hBW
  have hz : w.heap.size < W.heap.size := by rw [← hW]; clear hW hBW; simp
  have x0 : W.cell? ⟨w.heap.size, 1, none⟩ = some (.slice (some ⟨bb, off, none⟩) xs.length c) := by rw [← hW]; clear hW hBW; go_simp
  have x1 : W.cell? ⟨w.heap.size, 3, none⟩ = some (.slice (some ⟨bb2, off2, none⟩) ys.length c2) := by rw [← hW]; clear hW hBW; go_simp
  rw [hW]
  clear hW
  have a0 := cell_on hBW h1.hb h1.c0
  have a1 := cell_on hBW h1.hb h1.c1
  have b0 := cell_on hBW h2.hb h2.c0
  have b1 := cell_on hBW h2.hb h2.c1
  have s1 := Lib.hid ((h1.sub.blw hBW).more hBW.size)
  have s2 := Lib.hid ((h2.sub.blw hBW).more hBW.size)
  have Hx := Lib.hid (And.intro hx hy)
  have i1 := h1.hi
  have i2 := h2.hi
  have q1 : bb < W.heap.size := Nat.lt_of_lt_of_le h1.hb hBW.size
  have q2 : bb2 < W.heap.size := Nat.lt_of_lt_of_le h2.hb hBW.size
  clear hx hy h1 h2 hA hA2
  go_region_held3 (fun w' => w'.cell? ⟨w.heap.size, 1, none⟩ = some (.slice (some ⟨bb, off, none⟩) xs.length c) ∧ w'.cell? ⟨w.heap.size, 3, none⟩ = some (.slice (some ⟨bb2, off2, none⟩) ys.length c2) ∧ w'.cell? ⟨bb, off + k * 2, none⟩ = some (.int .i64 a.fn) ∧ w'.cell? ⟨bb, off + k * 2 + 1, none⟩ = some (.slice A' a.args.length c') ∧ w'.cell? ⟨bb2, off2 + k * 2, none⟩ = some (.int .i64 b.fn) ∧ w'.cell? ⟨bb2, off2 + k * 2 + 1, none⟩ = some (.slice A2' b.args.length c2'))
    (first | exact ⟨x0, x1, a0, a1, b0, b1⟩ | exact ⟨cell_on hB1 hz x0, cell_on hB1 hz x1, cell_on hB1 q1 a0, cell_on hB1 q1 a1, cell_on hB1 q2 b0, cell_on hB1 q2 b1⟩)
    (first
      | (go_at_call 96; refine (ih b A' A2' c' c2' W.drew i1 i2 (s1.out.drewN 1) (s2.out.drewN 1)).mono ?_; rintro e w1 ⟨rfl, hb1⟩; have hB1 : Below W.heap.size W w1 := ⟨hb1.os, hb1.tape, hb1.output, hb1.size, hb1.block⟩))
  go_wp2
  go_ret
  exact ⟨rfl, hBW.trans (hB1.mono (Nat.le_of_lt hz))⟩

set_option maxHeartbeats 1000000 in
theorem first_any (f g : Int) (xs ys : List Tm) (A A2 : Option Addr) (c c2 n : Nat) (w : World) (ih : ∀ a ∈ xs, CmpAt a) (hn1 : n ≤ xs.length) (hn2 : n ≤ ys.length) (hn : n = xs.length ∨ n = ys.length) (hA : Args w w.heap.size A xs) (hA2 : Args w w.heap.size A2 ys) :
    Calls Try.prog 125 #[.int .i64 (n : Int), .func (.func 126) #[.agg #[.int .i64 f, .slice A xs.length c, .int .i64 g, .slice A2 ys.length c2]] #[]] w fun e w' => e = .returned (.int .i64 (cmpL xs ys)) ∧ Below w.heap.size w w' := by
  have hl1 := hA.len
  have hl2 := hA2.len
  go_enter Try.func125, Try.ntmps125
  go_wp2
  go_loopw [8] (fun i wr => ∃ k : Nat, k ≤ n ∧ i = .int .i64 (k : Int) ∧ Below w.heap.size w wr ∧ Hid (∀ (j : Nat) (x y : Tm), j < k → xs[j]? = some x → ys[j]? = some y → cmpT x y = 0)) (fun i _ => n - (intOf i).toNat)
  case atStart => exact ⟨0, Nat.zero_le _, rfl, Below.refl _ _, fun j x y h => by omega⟩
  case round =>
    obtain ⟨k, hk, rfl, hBr, H⟩ := hrel
    by_cases hlt : k < n
    · obtain ⟨a, ha⟩ : ∃ a, xs[k]? = some a := ⟨_, List.getElem?_eq_getElem (by omega)⟩
      obtain ⟨b, hb⟩ : ∃ b, ys[k]? = some b := ⟨_, List.getElem?_eq_getElem (by omega)⟩
      have hC := Lib.hid (And.intro (hA.on hBr) (hA2.on hBr))
      have Hab := Lib.hid (And.intro ha hb)
      have hia := ih a (List.mem_of_getElem? ha)
      clear ha hb
      by_cases h0 : cmpT a b = 0
      · go_wp2_with (first | (go_at_call 126; refine (arguments_any f g xs ys A A2 c c2 k a b wr hia Hab.out.1 Hab.out.2 hC.out.1 hC.out.2).mono ?_; rintro e w1 ⟨rfl, hb1⟩; rw [h0]) | fail)
        refine ⟨⟨k + 1, by omega, by go_num, hBr.trans (hb1.mono hBr.size), fun j x y hj hx hy => ?_⟩, ?_⟩
        · by_cases e : j = k
          · subst e
            obtain ⟨e1, e2⟩ := Hab.out
            rw [hx] at e1; rw [hy] at e2
            cases e1; cases e2
            exact h0
          · exact H.out j x y (by omega) hx hy
        · simp [intOf]; omega
      · have hh := Lib.hid (cmpL_hit Hab.out.1 Hab.out.2 H.out h0)
        go_wp2_with (first | (go_at_call 126; refine (arguments_any f g xs ys A A2 c c2 k a b wr hia Hab.out.1 Hab.out.2 hC.out.1 hC.out.2).mono ?_; rintro e w1 ⟨rfl, hb1⟩) | fail)
        go_ret
        exact ⟨ret_int hh.out.symm, hBr.trans (hb1.mono hBr.size)⟩
    · have hke : k = n := by omega
      have hh := Lib.hid (cmpL_miss (xs := xs) (bs := ys) fun j x y hx hy => H.out j x y (by have h1 := (List.getElem?_eq_some_iff.1 hx).1; have h2 := (List.getElem?_eq_some_iff.1 hy).1; omega) hx hy)
      go_wp2
      go_ret
      exact ⟨ret_int hh.out.symm, hBr⟩

end Go.Proofs.Ytdeegdndfblnkaa
