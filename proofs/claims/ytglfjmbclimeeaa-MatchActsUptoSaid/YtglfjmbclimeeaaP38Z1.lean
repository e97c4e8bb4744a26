import Derived.Test.YtglfjmbclimeeaaP35Z2
import Derived.Test.YtglfjmbclimeeaaP35Z3
import Derived.Deep.RegionLaw
import Derived.Test.YtglfjmbclimeeaaP35Z4
/- Stores into rows of binds; a row of binds, read. -/

namespace Go.Proofs.Ytglfjmbclimeeaa

open Go.RowKit Go.Shelf
set_option maxRecDepth 100000

/-- Stores into the row, one bind's cells. -/
def setB (w : World) (g i : Nat) (x : Bi) : World := ((w.setCell ⟨g, i * 3, none⟩ (.int .i64 x.v)).setCell ⟨g, i * 3 + 1, none⟩ (.int .i64 x.t.fn)).setCell ⟨g, i * 3 + 2, none⟩ (.slice x.A x.t.args.length x.c)

theorem flat_set (l : List Bi) (i t : Nat) (x : Bi) (hi : i < l.length) : ((l.set i x).flatMap Bi.cells)[t]? = if t / 3 = i then x.cells[t % 3]? else (l.flatMap Bi.cells)[t]? := by
  have h1 := bi_get (l.set i x) (t / 3) (t % 3) (Nat.mod_lt _ (by omega))
  have h2 := bi_get l (t / 3) (t % 3) (Nat.mod_lt _ (by omega))
  rw [show t / 3 * 3 + t % 3 = t by omega] at h1 h2
  rw [h1, h2, List.getElem?_set]
  by_cases e : i = t / 3
  · rw [if_pos e, if_pos (by omega), if_pos e.symm]; rfl
  · rw [if_neg e, if_neg fun h => e h.symm]

theorem RowB.set {w : World} {base g cap n : Nat} {l : List Bi} {N : Nat → Prop} {x : Bi} {i : Nat} (h : RowB w base (.slice (some ⟨g, 0, none⟩) n cap) l N) (hi : i < l.length) (hN : ∀ k, N k → k ≠ g) (hx : BiFx w N x) : RowB (setB w g i x) base (.slice (some ⟨g, 0, none⟩) n cap) (l.set i x) N := by
  have hoth : ∀ k, k ≠ g → (setB w g i x).heap[k]? = w.heap[k]? := fun k e => (heap_setCell_other _ _ _ _ e).trans ((heap_setCell_other _ _ _ _ e).trans (heap_setCell_other _ _ _ _ e))
  refine ⟨⟨by rw [bi_len], ?_⟩, fun y hy => ?_⟩
  · rcases h.row.2 with ⟨e, _⟩ | ⟨g', cap', cur, e, hb, hg, hc, hm, hs, ht⟩
    · cases e
    · injection e with e1 e2 e3
      injection e1 with e1
      injection e1 with e1
      subst e1; subst e2; subst e3
      refine .inr ⟨g, cap, ((cur.setIfInBounds (i * 3) (.int .i64 x.v)).setIfInBounds (i * 3 + 1) (.int .i64 x.t.fn)).setIfInBounds (i * 3 + 2) (.slice x.A x.t.args.length x.c), by rw [List.length_set], hb, ?_, by rw [List.length_set]; exact hc, hm, by simp [hs], ?_⟩
      · exact heap_setCell_same _ _ _ _ _ _ (heap_setCell_same _ _ _ _ _ _ (heap_setCell_same _ _ _ _ _ _ hg))
      · apply List.ext_getElem?
        intro t
        rw [flat_set l i t x hi, List.getElem?_take, List.length_set, Array.getElem?_toList, ← ht, List.getElem?_take]
        have hsz : l.length * 3 ≤ cur.size := by rw [hs]; exact Nat.mul_le_mul_right 3 hc
        by_cases hlt : t < l.length * 3
        · rw [if_pos hlt, if_pos hlt, Array.getElem?_setIfInBounds, Array.getElem?_setIfInBounds, Array.getElem?_setIfInBounds]
          simp only [Array.size_setIfInBounds]
          by_cases e : t / 3 = i
          · rw [if_pos e]
            have h3 : t % 3 < 3 := Nat.mod_lt _ (by omega)
            obtain e0 | e0 | e0 : t % 3 = 0 ∨ t % 3 = 1 ∨ t % 3 = 2 := by omega
            · rw [if_neg (by omega), if_neg (by omega), if_pos (by omega), if_pos (by omega), e0]; rfl
            · rw [if_neg (by omega), if_pos (by omega), if_pos (by omega), e0]; rfl
            · rw [if_pos (by omega), if_pos (by omega), e0]; rfl
          · rw [if_neg e, if_neg (by omega), if_neg (by omega), if_neg (by omega), Array.getElem?_toList]
        · rw [if_neg hlt, if_neg hlt, if_neg (by omega)]
  · rcases List.mem_or_eq_of_mem_set hy with hy | rfl
    · exact (h.fx y hy).keep fun k hk => hoth k (hN k hk)
    · exact hx.keep fun k hk => hoth k (hN k hk)

theorem RowB.get {w : World} {base g cap n : Nat} {l : List Bi} {N : Nat → Prop} (h : RowB w base (.slice (some ⟨g, 0, none⟩) n cap) l N) {i : Nat} {x : Bi} (hx : l[i]? = some x) : w.cell? ⟨g, i * 3, none⟩ = some (.int .i64 x.v) ∧ w.cell? ⟨g, i * 3 + 1, none⟩ = some (.int .i64 x.t.fn) ∧ w.cell? ⟨g, i * 3 + 2, none⟩ = some (.slice x.A x.t.args.length x.c) := by
  have hlt := (List.getElem?_eq_some_iff.1 hx).1
  have q0 := bi_get l i 0 (by omega)
  have q1 := bi_get l i 1 (by omega)
  have q2 := bi_get l i 2 (by omega)
  rw [Nat.add_zero, hx] at q0
  rw [hx] at q1 q2
  rcases h.row.2 with ⟨e, _⟩ | ⟨g', cap', cur, e, hb, hg, hc, hm, hs, ht⟩
  · cases e
  · injection e with e1 e2 e3
    injection e1 with e1
    injection e1 with e1
    subst e1; subst e2; subst e3
    refine ⟨?_, ?_, ?_⟩
    · rw [h.row.cellAt (i * 3) (by omega), q0]; rfl
    · rw [h.row.cellAt (i * 3 + 1) (by omega), q1]; rfl
    · rw [h.row.cellAt (i * 3 + 2) (by omega), q2]; rfl

theorem RowB.frozen {w : World} {base g cap n : Nat} {l : List Bi} {N : Nat → Prop} (h : RowB w base (.slice (some ⟨g, 0, none⟩) n cap) l N) (j : Nat) : w.frozen? ⟨g, j, none⟩ = false := by
  rcases h.row.2 with ⟨e, _⟩ | ⟨g', cap', cur, e, hb, hg, hc, hm, hs, ht⟩
  · cases e
  · injection e with e1 e2 e3
    injection e1 with e1
    injection e1 with e1
    subst e1
    exact frozen_of_row w g j cur _ hg

end Go.Proofs.Ytglfjmbclimeeaa

/- match: the document's own matcher: plain, get, walked; its memory. -/

namespace Go.Proofs.Ytglfjmbclimeeaa

open Go.RowKit Go.Shelf
set_option maxRecDepth 100000

def RPlainAt (t : Tm) : Prop := ∀ (A : Option Addr) (c : Nat) (w : World), I64 t.fn → Args w w.heap.size A t.args →
  Calls Try.prog 35 #[.agg #[.int .i64 t.fn, .slice A t.args.length c]] w fun e w' => e = .returned (.bool (plainT t)) ∧ Below w.heap.size w w'

/-- The document's matcher's own blocks that are written. -/
def OwnZ (zb : Nat) (v : Value) (g : Nat) : Prop := g = zb ∨ v.ownBlock = some g

structure RefW (w : World) (S : Nat → Prop) (zb : Nat) (v : Value) (l : List Bi) : Prop where
  box : w.heap[zb]? = some (.cells #[v] 28)
  row : RowB w 0 v l (fun g => S g ∧ ¬ OwnZ zb v g)
  av : ¬ v.ownBlock = some zb
  own : ∀ g, OwnZ zb v g → S g
  lt : ∀ g, S g → g < w.heap.size

section

variable {w w' : World} {S T : Nat → Prop} {zb : Nat} {v : Value} {l : List Bi}

theorem RefW.keep (h : RefW w S zb v l) (hs : w.heap.size ≤ w'.heap.size) (hk : ∀ g, S g → w'.heap[g]? = w.heap[g]?) : RefW w' S zb v l where
  box := (hk zb (h.own _ (.inl rfl))).trans h.box
  row := h.row.keep (fun g e => hk g (h.own _ (.inr e))) fun g e => hk g e.1
  av := h.av
  own := h.own
  lt := fun g e => Nat.lt_of_lt_of_le (h.lt g e) hs

theorem RefW.on (h : RefW w S zb v l) (hb : Below w.heap.size w w') : RefW w' S zb v l := h.keep hb.size fun g e => hb.block g (h.lt g e)

theorem RefW.wide (h : RefW w S zb v l) (hst : ∀ g, S g → T g) (hT : ∀ g, T g → g < w.heap.size) : RefW w T zb v l where
  box := h.box
  row := h.row.wide fun g e => ⟨hst g e.1, e.2⟩
  av := h.av
  own := fun g e => hst g (h.own g e)
  lt := hT

theorem RefW.slice (h : RefW w S zb v l) : ∃ A c, v = .slice A l.length c := row_slice h.row.row

/-- A new one. -/
theorem RefW.new_ (w : World) : RefW (w.alloc (.cells #[.slice none 0 0] 28)) (fun g => g = w.heap.size) w.heap.size (.slice none 0 0) [] where
  box := heap_alloc_new w _
  row := RowB.nil_ _ _ _
  av := by simp [Value.ownBlock]
  own := fun g h => by
    rcases h with h | h
    · exact h
    · simp [Value.ownBlock] at h
  lt := fun g h => by subst h; simp

end

/-- From w to w'. -/
structure RefStep (w w' : World) (S : Nat → Prop) (zb : Nat) (v v' : Value) (l' : List Bi) : Prop where
  m : RefW w' (fun g => S g ∨ (w.heap.size ≤ g ∧ g < w'.heap.size)) zb v' l'
  k : KeepsC (OwnZ zb v) w w'
  blk : ∀ g, v'.ownBlock = some g → v.ownBlock = some g ∨ w.heap.size ≤ g

section

variable {w w1 w2 : World} {S : Nat → Prop} {zb : Nat} {v v1 v2 : Value} {l l1 l2 : List Bi}

theorem RefStep.of_below (h : RefW w S zb v l) (hb : Below w.heap.size w w1) : RefStep w w1 S zb v v l :=
  ⟨(h.on hb).wide (fun _ e => .inl e) fun g e => e.elim (fun e => Nat.lt_of_lt_of_le (h.lt g e) hb.size) fun e => e.2, KeepsC.of_below hb, fun _ e => .inl e⟩

theorem RefStep.trans (h1 : RefStep w w1 S zb v v1 l1) (h2 : RefStep w1 w2 (fun g => S g ∨ (w.heap.size ≤ g ∧ g < w1.heap.size)) zb v1 v2 l2) : RefStep w w2 S zb v v2 l2 := by
  have s1 := h1.k.size
  have s2 := h2.k.size
  refine ⟨h2.m.wide (fun g e => ?_) (fun g e => ?_), Keeps.trans h1.k.k (Keeps.mono h2.k.k fun g e => ⟨by have := e.1; omega, fun e2 => ?_⟩), fun g e => ?_⟩
  · rcases e with (e | e) | e
    · exact .inl e
    · exact .inr (by omega)
    · exact .inr (by omega)
  · rcases e with e | e
    · have := h1.m.lt g (.inl e); omega
    · exact e.2
  · rcases e2 with e2 | e2
    · exact e.2 (.inl e2)
    · rcases h1.blk g e2 with h | h
      · exact e.2 (.inr h)
      · have := e.1; omega
  · rcases h2.blk g e with h | h
    · exact h1.blk g h
    · right; omega

theorem RefStep.below (h1 : RefStep w w1 S zb v v1 l1) (hb : Below w1.heap.size w1 w2) : RefStep w w2 S zb v v1 l1 := h1.trans (.of_below h1.m hb)

/-- One more bind. -/
theorem RefW.push {W2 X W4 : World} {v4 : Value} {x : Bi} (h : RefW w S zb v l) (hb : Below w.heap.size w W2) (hx : BiFx W2 (fun g => w.heap.size ≤ g ∧ g < W2.heap.size) x)
    (hX : Below W2.heap.size W2 X) (hr : W4.ownsRow 0 51 3 v4 (l.length + 1) (l.flatMap Bi.cells ++ x.cells)) (hg4 : X.grownBy W4 v.ownBlock) (hat : v4.ownBlock = v.ownBlock ∨ v4.ownBlock = some X.heap.size) :
    RefStep w (W4.setCell ⟨zb, 0, none⟩ v4) S zb v v4 (l ++ [x]) := by
  have hlt := h.lt
  have hzb := h.own zb (.inl rfl)
  have hvS : ∀ g, v.ownBlock = some g → S g := fun g e => h.own g (.inr e)
  have s2 := hb.size
  have s4 := hX.size
  have s5 := hg4.size
  have hzl := hlt zb hzb
  have k24 : ∀ g, g < W2.heap.size → v.ownBlock ≠ some g → W4.heap[g]? = W2.heap[g]? := fun g h1 h2 => (hg4.block g (by omega) fun e => h2 e.symm).trans (hX.block g h1)
  have kk : ∀ g, g < W2.heap.size → ¬ OwnZ zb v g → (W4.setCell ⟨zb, 0, none⟩ v4).heap[g]? = W2.heap[g]? := fun g h1 h2 => by
    rw [heap_setCell_other _ _ _ _ (fun e => h2 (.inl e)), k24 g h1 (fun e => h2 (.inr e))]
  have hv4 : ∀ g, v4.ownBlock = some g → v.ownBlock = some g ∨ W2.heap.size ≤ g := fun g e => by
    rcases hat with h1 | h1
    · rw [h1] at e; exact .inl e
    · rw [h1] at e; injection e with e; right; omega
  have hb4 : W4.heap[zb]? = some (.cells #[v] 28) := by
    rw [k24 zb (by omega) h.av, hb.block zb hzl]; exact h.box
  have hv4z : v4.ownBlock ≠ some zb := fun e => by
    rcases hv4 _ e with h1 | h1
    · exact h.av h1
    · omega
  have hl4 := row_lt hr
  refine ⟨⟨?_, ?_, hv4z, fun g e => ?_, fun g e => ?_⟩, ?_, fun g e => ?_⟩
  · have := heap_setCell_same W4 zb 0 _ _ v4 hb4
    simpa using this
  · have h0 : RowB W4 0 v4 (l ++ [x]) (fun g => (S g ∨ (w.heap.size ≤ g ∧ g < W2.heap.size)) ∧ ¬ OwnZ zb v4 g) := by
      refine RowB.push (w := w) (N := fun g => S g ∧ ¬ OwnZ zb v g) h.row hr ((hx.keep fun g e => k24 g e.2 fun e2 => ?_).wide fun g e => ⟨.inr e, fun e2 => ?_⟩) (fun g e => (k24 g (by have := hlt g e.1; omega) fun e2 => e.2 (.inr e2)).trans (hb.block g (hlt g e.1))) fun g e => ⟨.inl e.1, fun e2 => ?_⟩
      · have := hlt g (hvS g e2); omega
      · rcases e2 with e2 | e2
        · omega
        · rcases hv4 g e2 with h1 | h1
          · have := hlt g (hvS g h1); omega
          · omega
      · rcases e2 with e2 | e2
        · exact e.2 (.inl e2)
        · rcases hv4 g e2 with h1 | h1
          · exact e.2 (.inr h1)
          · have := hlt g e.1; omega
    refine (h0.keep (fun g e => heap_setCell_other _ _ _ _ fun e2 => hv4z (by rw [e, e2])) fun g e => heap_setCell_other _ _ _ _ fun e2 => e.2 (.inl e2)).wide fun g e => ⟨e.1.imp id fun e2 => ⟨e2.1, by simp; omega⟩, e.2⟩
  · rcases e with rfl | e
    · exact .inl hzb
    · rcases hv4 g e with h1 | h1
      · exact .inl (hvS g h1)
      · exact .inr ⟨by omega, by simpa using (hl4 g e).2⟩
  · rcases e with e | e
    · have := hlt g e; simp; omega
    · exact e.2
  · refine ⟨by show W4.os = _; rw [hg4.os, hX.os, hb.os], by show W4.tape = _; rw [hg4.tape, hX.tape, hb.tape], by show W4.output = _; rw [hg4.output, hX.output, hb.output], by simp; omega, fun g e => ?_⟩
    rw [kk g (by have := e.1; omega) e.2]
    exact hb.block g e.1
  · rcases hv4 g e with h1 | h1
    · exact .inl h1
    · right; omega

/-- Cut back. -/
theorem RefW.cut {A : Option Addr} {k c : Nat} (h : RefW w S zb (.slice A l.length c) l) (hk : k ≤ l.length) : RefStep w (w.setCell ⟨zb, 0, none⟩ (.slice A k c)) S zb (.slice A l.length c) (.slice A k c) (l.take k) := by
  have hzb := h.own zb (.inl rfl)
  have hlt := h.lt
  have hob : (Value.slice A k c).ownBlock = (Value.slice A l.length c).ownBlock := by cases A <;> rfl
  have hOw : ∀ g, OwnZ zb (.slice A k c) g ↔ OwnZ zb (.slice A l.length c) g := fun g => by unfold OwnZ; rw [hob]
  have hlen : (l.take k).length = k := by rw [List.length_take]; omega
  have hrow := ownsRow_cut' h.row.row hk
  have htk : (l.flatMap Bi.cells).take (k * 3) = (l.take k).flatMap Bi.cells := bi_take l k
  rw [htk] at hrow
  refine ⟨⟨?_, ⟨?_, fun x hx => ?_⟩, by rw [hob]; exact h.av, fun g e => .inl (h.own g ((hOw g).1 e)), fun g e => ?_⟩, ⟨rfl, rfl, rfl, by simp, fun g e => heap_setCell_other _ _ _ _ fun e2 => e.2 (.inl e2)⟩, fun g e => .inl (by rw [← hob]; exact e)⟩
  · have := heap_setCell_same w zb 0 _ _ (.slice A k c) h.box
    simpa using this
  · rw [hlen]
    refine row_keep hrow fun g e => heap_setCell_other _ _ _ _ ?_
    rintro rfl; rw [hob] at e; exact h.av e
  · refine ((h.row.fx x (List.mem_of_mem_take hx)).keep fun g e => heap_setCell_other _ _ _ _ fun e2 => e.2 (.inl e2)).wide fun g e => ⟨.inl e.1, fun e2 => e.2 ((hOw g).1 e2)⟩
  · rcases e with e | e
    · have := hlt g e; simpa using this
    · exact e.2
where
  ownsRow_cut' {w : World} {base : Nat} {e : TypeId} {size n m : Nat} {A : Option Addr} {c : Nat} {vs : List Value} (h : w.ownsRow base e size (.slice A n c) n vs) (hm : m ≤ n) : w.ownsRow base e size (.slice A m c) m (vs.take (m * size)) := by
    refine ⟨by rw [List.length_take, h.1]; exact Nat.min_eq_left (Nat.mul_le_mul_right size hm), ?_⟩
    rcases h.2 with ⟨e0, h0⟩ | ⟨g, cap, cur, e0, hb, hg, hc, hx, hs, ht⟩
    · injection e0 with e1 e2 e3
      subst e1; subst e3
      obtain rfl : m = 0 := by omega
      exact .inl ⟨rfl, rfl⟩
    · injection e0 with e1 e2 e3
      subst e1; subst e3
      refine .inr ⟨g, c, cur, rfl, hb, hg, by omega, hx, hs, ?_⟩
      rw [← ht, List.take_take, Nat.min_eq_left (Nat.mul_le_mul_right size hm)]
  bi_take (l : List Bi) (m : Nat) : (l.flatMap Bi.cells).take (m * 3) = (l.take m).flatMap Bi.cells := by
    induction l generalizing m with
    | nil => simp
    | cons x l ih =>
      cases m with
      | zero => simp
      | succ m =>
        have hlen : x.cells.length = 3 := rfl
        rw [List.take_succ_cons, List.flatMap_cons, List.flatMap_cons, List.take_append, hlen, ← ih]
        rw [List.take_of_length_le (by omega), show (m + 1) * 3 - 3 = m * 3 by omega]

end

set_option maxHeartbeats 1000000 in
theorem rplain_any (t : Tm) : RPlainAt t := by
  refine Tm.ind (P := RPlainAt) (fun f xs ih => ?_) t
  intro A c w hf hA
  simp only [Tm.fn, Tm.args] at hf hA ⊢
  have hlen := hA.len
  have q0 := heap_alloc_new w (.cells #[.int .i64 f, .slice A xs.length c] 31)
  obtain ⟨W, hW⟩ : ∃ W, w.alloc (.cells #[.int .i64 f, .slice A xs.length c] 31) = W := ⟨_, rfl⟩
  have hB : Below w.heap.size w W := by rw [← hW]; exact (Below.refl _ _).alloc (Nat.le_refl _) _
  rw [hW] at q0
  have hWs : w.heap.size < W.heap.size := (Array.getElem?_eq_some_iff.1 q0).1
  obtain ⟨x0, x1, _, _⟩ := cells_two q0
  have HA := Lib.hid hA
  have HW := Lib.hid hW
  have Hq := Lib.hid q0
  have hpl := Lib.hid (plainL_eq xs)
  clear hA hW q0
  have hmain : f < 0 ∧ 0 < xs.length ∨ ¬ (f < 0 ∧ 0 < xs.length) := Classical.em _
  rcases hmain with ⟨h0, h1⟩ | hno
  · have hres := Lib.hid (show plainT (.node f xs) = false by
      rw [plainT, decide_eq_false (show ¬ 0 ≤ f by omega), decide_eq_false (show ¬ xs.length = 0 by omega)]; simp)
    have h0' : decide (f < 0) = true := decide_eq_true h0
    go_enter Try.func35, Try.ntmps35
    go_upto_region 1 with fail
    rw [HW.out]
    go_wp2
    go_ret
    exact ⟨ret_bool hres.out.symm, hB⟩
  · have hfin : ∀ b, xs.all plainT = b → plainT (.node f xs) = b := fun b hb => by
      rw [plainT, hpl.out, hb]
      by_cases h0 : f < 0
      · rw [decide_eq_false (show ¬ 0 ≤ f by omega), decide_eq_true (show xs.length = 0 by by_cases h : 0 < xs.length; exact absurd ⟨h0, h⟩ hno; omega)]; simp
      · rw [decide_eq_true (show 0 ≤ f by omega)]; simp
    have Hfin := Lib.hid hfin
    have hcase : (decide (f < 0) = false) ∨ (decide (f < 0) = true ∧ ¬ 0 < xs.length) := by
      by_cases h0 : f < 0
      · exact .inr ⟨decide_eq_true h0, fun h => hno ⟨h0, h⟩⟩
      · exact .inl (decide_eq_false h0)
    clear hfin hno
    rcases hcase with h0 | ⟨h0, h1⟩
    · go_enter Try.func35, Try.ntmps35
      go_upto_region 1 with fail
      rw [HW.out]
      go_wp2
      go_loopw [3] (fun i wr => ∃ k : Nat, k ≤ xs.length ∧ i = .int .i64 (k : Int) ∧ Below W.heap.size W wr ∧ Hid (∀ u ∈ xs.take k, plainT u = true)) (fun i _ => xs.length - (intOf i).toNat)
      case atStart => exact ⟨0, Nat.zero_le _, rfl, Below.refl _ _, Lib.hid fun u hu => by simp at hu⟩
      case round =>
        obtain ⟨k, hk, rfl, hBr, Hn⟩ := hrel
        obtain ⟨a0, a1, _, _⟩ := cells_two ((hBr.block _ hWs).trans Hq.out)
        have hBw : Below w.heap.size w wr := hB.trans (hBr.mono hB.size)
        clear x0 x1
        by_cases hlt : k < xs.length
        · obtain ⟨u, hu⟩ : ∃ u, xs[k]? = some u := ⟨_, List.getElem?_eq_getElem hlt⟩
          obtain ⟨bb, off, A1, c1, rfl, ha⟩ := HA.out.get hu
          have e0 := cell_on hBw ha.hb ha.c0
          have e1 := cell_on hBw ha.hb ha.c1
          have hcall := Lib.hid (ih u (List.mem_of_getElem? hu) A1 c1 wr ha.hi (ha.sub.on hBw))
          have Hu := Lib.hid hu
          clear hu ha
          rcases hp : plainT u with _ | _
          · have hp' := Lib.hid hp
            have hres : Hid (plainT (.node f xs) = false) := Lib.hid (Hfin.out _ (List.all_eq_false.2 ⟨u, List.mem_of_getElem? Hu.out, by simp [hp]⟩))
            clear hp
            go_wp2_with (first
              | (go_at_call 35; (with_reducible refine hcall.out.mono ?_); go_must (rintro e w1 ⟨rfl, hb1⟩; rw [hp'.out]))
              | fail)
            go_ret
            exact ⟨ret_bool hres.out.symm, hBw.trans (hb1.mono hBw.size)⟩
          · have hp' := Lib.hid hp
            have hn2 : Hid (∀ y ∈ xs.take (k + 1), plainT y = true) := Lib.hid fun y hy => by
              rw [List.take_add_one, Hu.out] at hy
              rcases List.mem_append.1 hy with hy | hy
              · exact Hn.out y hy
              · simp at hy; subst hy; exact hp
            clear hp
            go_wp2_with (first
              | (go_at_call 35; (with_reducible refine hcall.out.mono ?_); go_must (rintro e w1 ⟨rfl, hb1⟩; rw [hp'.out]))
              | fail)
            have hB1 := hBr.trans (hb1.mono hBr.size)
            go_roundw
            case rel => exact ⟨k + 1, by omega, by go_num, hB1, hn2⟩
            case measure => simp [intOf]; omega
        · obtain rfl : k = xs.length := by omega
          have hres : Hid (plainT (.node f xs) = true) := Lib.hid (Hfin.out _ (by
            have hn := Hn.out
            rw [List.take_length] at hn
            exact List.all_eq_true.2 hn))
          go_wp2
          go_ret
          exact ⟨ret_bool hres.out.symm, hBw⟩
    · have hx0 : xs = [] := List.eq_nil_of_length_eq_zero (by omega)
      have hres : Hid (plainT (.node f xs) = true) := Lib.hid (Hfin.out _ (by rw [hx0]; rfl))
      subst hx0
      simp only [List.length_nil] at *
      go_enter Try.func35, Try.ntmps35
      go_upto_region 1 with fail
      rw [HW.out]
      go_wp2
      go_loopw [3] (fun i wr => i = .int .i64 0 ∧ wr = W) (fun _ _ => 0)
      case atStart => exact ⟨rfl, rfl⟩
      case round =>
        obtain ⟨rfl, rfl⟩ := hrel
        go_wp2
        go_ret
        exact ⟨ret_bool hres.out.symm, hB⟩

/-- What get tells. -/
def GetZPost (l : List Bi) (x : Int) (w : World) (e : Ending) (w' : World) : Prop := Below w.heap.size w w' ∧
  match biV l x with
  | none => e = .returned (.tuple #[.agg #[.int .i64 0, .slice none 0 0], .bool false])
  | some v => e = .returned (.tuple #[v, .bool true])

set_option maxHeartbeats 2000000 in
theorem rget_any (x : Int) (zb : Nat) (S : Nat → Prop) (v : Value) (l : List Bi) (w : World) (h : RefW w S zb v l) (hl : l.length ≤ 4398046511104) : Calls Try.prog 63 #[.pointer (some ⟨zb, 0, none⟩), .int .i64 x] w (GetZPost l x w) := by
  obtain ⟨A, c, rfl⟩ := h.slice
  obtain ⟨W, hW⟩ : ∃ W, w.alloc (.cells #[.int .i64 0, .slice none 0 0] 31) = W := ⟨_, rfl⟩
  have hB : Below w.heap.size w W := by rw [← hW]; exact (Below.refl _ _).alloc (Nat.le_refl _) _
  have q0 := heap_alloc_new w (.cells #[.int .i64 0, .slice none 0 0] 31)
  rw [hW] at q0
  have hWs : w.heap.size < W.heap.size := (Array.getElem?_eq_some_iff.1 q0).1
  have hzl := h.lt zb (h.own zb (.inl rfl))
  have hz := (hB.block zb hzl).trans h.box
  have hc0 : W.cell? ⟨zb, 0, none⟩ = some (.slice A l.length c) := cells_n hz 0 _ rfl
  have hrow := h.row.row
  have hg : ∀ (k : Nat) (y : Bi), l[k]? = some y → ∃ g, A = some ⟨g, 0, none⟩ ∧ W.cell? ⟨g, k * 3, none⟩ = some (.int .i64 y.v) ∧ W.cell? ⟨g, k * 3 + 1, none⟩ = some (.int .i64 y.t.fn) ∧ W.cell? ⟨g, k * 3 + 2, none⟩ = some (.slice y.A y.t.args.length y.c) := fun k y hy => by
    have hlt := (List.getElem?_eq_some_iff.1 hy).1
    rcases hrow.2 with ⟨_, h0⟩ | ⟨g, cap, cur, e, hb, hg, _⟩
    · omega
    · injection e with e1 e2 e3
      subst e1
      have hgl : g < w.heap.size := (Array.getElem?_eq_some_iff.1 hg).1
      obtain ⟨a, b, d⟩ := h.row.get hy
      exact ⟨g, rfl, (cell_of_heap (hB.block g hgl)).trans a, (cell_of_heap (hB.block g hgl)).trans b, (cell_of_heap (hB.block g hgl)).trans d⟩
  obtain ⟨a0, a1, f0, f1⟩ := cells_two q0
  have HW := Lib.hid hW
  have Hg := Lib.hid hg
  have Hq := Lib.hid q0
  clear hW hg h hrow q0 hz
  go_enter Try.func63, Try.ntmps63
  go_upto_region 1 with fail
  rw [HW.out]
  go_wp2
  go_loopw [6] (fun i wr => ∃ k : Nat, k ≤ l.length ∧ i = .int .i64 (k : Int) ∧ wr = W ∧ Hid (∀ y ∈ l.take k, ¬ y.v = x)) (fun i _ => l.length - (intOf i).toNat)
  case atStart => exact ⟨0, Nat.zero_le _, rfl, rfl, Lib.hid fun y hy => by simp at hy⟩
  case round =>
    obtain ⟨k, hk, rfl, rfl, Hn⟩ := hrel
    by_cases hlt : k < l.length
    · obtain ⟨y, hy⟩ : ∃ y, l[k]? = some y := ⟨_, List.getElem?_eq_getElem hlt⟩
      obtain ⟨g, rfl, e0, e1, e2⟩ := Hg.out k y hy
      have Hy := Lib.hid hy
      clear hy
      by_cases hv : y.v = x
      · have hv' : ((y.v : Int) == x) = true := by simp [hv]
        have hres : Hid (biV l x = some (.agg #[.int .i64 y.t.fn, .slice y.A y.t.args.length y.c])) := Lib.hid (by
          have hf : l.find? (fun z => decide (z.v = x)) = some y := by
            rw [List.find?_eq_some_iff_getElem]
            obtain ⟨h1, h2⟩ := List.getElem?_eq_some_iff.1 Hy.out
            refine ⟨decide_eq_true hv, k, h1, h2, fun j hj => ?_⟩
            have := Hn.out l[j] (by rw [List.mem_take_iff_getElem]; exact ⟨j, by omega, rfl⟩)
            simpa using this
          unfold biV
          rw [hf]; rfl)
        clear hv
        go_wp2
        obtain ⟨z0, z1⟩ := set2_two (u := .int .i64 y.t.fn) (v := .slice y.A y.t.args.length y.c) Hq.out
        have k0 := (cells_two z0).1
        have k1 := (cells_two z1).2.1
        refine bodyPost_ret (v := .tuple #[.agg #[.int .i64 y.t.fn, .slice y.A y.t.args.length y.c], .bool true]) (by simp [results, Try.results63, go_sem, k0, k1]) rfl ⟨(hB.setCell (by show _ ≤ w.heap.size; omega) _).setCell (by show _ ≤ w.heap.size; omega) _, ?_⟩
        rw [hres.out]
      · have hv' : ((y.v : Int) == x) = false := by simp [hv]
        have hn2 : Hid (∀ z ∈ l.take (k + 1), ¬ z.v = x) := Lib.hid fun z hz => by
          rw [List.take_add_one, Hy.out] at hz
          rcases List.mem_append.1 hz with hz | hz
          · exact Hn.out z hz
          · simp at hz; subst hz; exact hv
        clear hv
        go_wp2
        go_roundw
        case rel => exact ⟨k + 1, by omega, by go_num, trivial, hn2⟩
        case measure => simp [intOf]; omega
    · obtain rfl : k = l.length := by omega
      have hres : Hid (biV l x = none) := Lib.hid (by
        have hn := Hn.out
        rw [List.take_length] at hn
        unfold biV
        rw [List.find?_eq_none.2 fun y hy => by simpa using hn y hy]; rfl)
      go_wp2
      obtain ⟨z0, z1⟩ := set2_two (u := .int .i64 0) (v := .slice none 0 0) Hq.out
      have k0 := (cells_two z0).1
      have k1 := (cells_two z1).2.1
      refine bodyPost_ret (v := .tuple #[.agg #[.int .i64 0, .slice none 0 0], .bool false]) (by simp [results, Try.results63, go_sem, k0, k1]) rfl ⟨(hB.setCell (by show _ ≤ w.heap.size; omega) _).setCell (by show _ ≤ w.heap.size; omega) _, ?_⟩
      rw [hres.out]

end Go.Proofs.Ytglfjmbclimeeaa

/- match: the document's own matcher: term, walked. -/

namespace Go.Proofs.Ytglfjmbclimeeaa

open Go.RowKit Go.Shelf
set_option maxRecDepth 100000

theorem mtL_app : ∀ (xs us bs vs : List Tm) (M : List Bd), xs.length = us.length → mtL (xs ++ bs) M (us ++ vs) = (mtL xs M us).bind fun M' => mtL bs M' vs
  | [], us, bs, vs, M, h => by
    obtain rfl := List.eq_nil_of_length_eq_zero h.symm
    simp [mtL]
  | a :: xs, us, bs, vs, M, h => by
    cases us with
    | nil => simp at h
    | cons u us =>
      simp only [List.cons_append, mtL]
      rcases mtT a M u with _ | M'
      · rfl
      · simp only [Option.bind_some]
        exact mtL_app xs us bs vs M' (by simpa using h)

theorem mtL_next {xs us : List Tm} {x u : Tm} {k : Nat} {M M' : List Bd} (hl : xs.length = us.length) (hx : xs[k]? = some x) (hu : us[k]? = some u) (h : mtL (xs.take k) M (us.take k) = some M') : mtL (xs.take (k + 1)) M (us.take (k + 1)) = mtT x M' u := by
  rw [List.take_add_one, List.take_add_one, hx, hu, mtL_app _ _ _ _ _ (by rw [List.length_take, List.length_take, hl]), h]
  simp [mtL]

theorem mtL_stop {xs us : List Tm} {k : Nat} {M : List Bd} (hl : xs.length = us.length) (h : mtL (xs.take k) M (us.take k) = none) : mtL xs M us = none := by
  conv => lhs; rw [← List.take_append_drop k xs, ← List.take_append_drop k us]
  rw [mtL_app _ _ _ _ _ (by rw [List.length_take, List.length_take, hl]), h]; rfl

theorem sizes_upto {xs : List Tm} {x : Tm} {k : Nat} (hx : xs[k]? = some x) : sizes (xs.take (k + 1)) = sizes (xs.take k) + x.size ∧ sizes (xs.take k) + x.size ≤ sizes xs := by
  have h1 : sizes (xs.take (k + 1)) = sizes (xs.take k) + x.size := by
    rw [List.take_add_one, hx, sizes_app]; simp [sizes]
  refine ⟨h1, ?_⟩
  rw [← h1]
  conv => rhs; rw [← List.take_append_drop (k + 1) xs]
  rw [sizes_app]; omega

/-- What the document's term does. -/
def RTrmPost (p u : Tm) (S : Nat → Prop) (zb : Nat) (v : Value) (l : List Bi) (w : World) (e : Ending) (w' : World) : Prop :=
  ∃ v' l', e = .returned (.bool (mtT p (bdsM l) u).isSome) ∧ ((mtT p (bdsM l) u).isSome = true → mtT p (bdsM l) u = some (bdsM l')) ∧ (∃ E, bdsM l' = bdsM l ++ E) ∧ l'.length ≤ p.size + l.length ∧ RefStep w w' S zb v v' l'

def RTrmAt (p : Tm) : Prop := ∀ (u : Tm) (A B : Option Addr) (c d zb : Nat) (S N : Nat → Prop) (v : Value) (l : List Bi) (w : World), RefW w S zb v l → (∀ g, N g → g < w.heap.size ∧ ¬ OwnZ zb v g) → p.size + l.length ≤ 1099511627776 → u.size ≤ 4398046511104 →
  I64 p.fn → I64 u.fn → ArgsN w N A p.args → ArgsN w N B u.args →
  Calls Try.prog 36 #[.pointer (some ⟨zb, 0, none⟩), .agg #[.int .i64 p.fn, .slice A p.args.length c], .agg #[.int .i64 u.fn, .slice B u.args.length d]] w (RTrmPost p u S zb v l w)

/-- What is laid by two boxes. -/
theorem box2 {w W : World} {p u : Tm} {A B : Option Addr} {c d : Nat} (hW : (w.alloc (.cells #[.int .i64 p.fn, .slice A p.args.length c] 31)).alloc (.cells #[.int .i64 u.fn, .slice B u.args.length d] 31) = W) :
    Below w.heap.size w W ∧ W.heap.size = w.heap.size + 2 ∧ W.heap[w.heap.size]? = some (.cells #[.int .i64 p.fn, .slice A p.args.length c] 31) ∧ W.heap[w.heap.size + 1]? = some (.cells #[.int .i64 u.fn, .slice B u.args.length d] 31) := by
  have q1 := heap_alloc_new (w.alloc (.cells #[.int .i64 p.fn, .slice A p.args.length c] 31)) (.cells #[.int .i64 u.fn, .slice B u.args.length d] 31)
  have q0 := (Below.heap_alloc (w.alloc (.cells #[.int .i64 p.fn, .slice A p.args.length c] 31)) (.cells #[.int .i64 u.fn, .slice B u.args.length d] 31) w.heap.size (by simp)).trans (heap_alloc_new w _)
  rw [hW] at q0 q1
  rw [show (w.alloc (.cells #[.int .i64 p.fn, .slice A p.args.length c] 31)).heap.size = w.heap.size + 1 by simp] at q1
  exact ⟨by rw [← hW]; exact ((Below.refl _ _).alloc (Nat.le_refl _) _).alloc (by simp) _, by rw [← hW]; simp, q0, q1⟩

theorem RefStep.pre {w W w' : World} {S : Nat → Prop} {zb : Nat} {v v' : Value} {l l' : List Bi} (h : RefW w S zb v l) (hb : Below w.heap.size w W) (h2 : RefStep W w' (fun g => S g ∨ (w.heap.size ≤ g ∧ g < W.heap.size)) zb v v' l') : RefStep w w' S zb v v' l' := (RefStep.of_below h hb).trans h2

/-- What is not the matcher's stays. -/
theorem RefStep.stay {w w' : World} {S N : Nat → Prop} {zb : Nat} {v v' : Value} {l' : List Bi} (h : RefStep w w' S zb v v' l') (hN : ∀ g, N g → g < w.heap.size ∧ ¬ OwnZ zb v g) : (∀ g, N g → w'.heap[g]? = w.heap[g]?) ∧ ∀ g, N g → g < w'.heap.size ∧ ¬ OwnZ zb v' g :=
  ⟨fun g e => h.k.k.block g ⟨(hN g e).1, (hN g e).2⟩, fun g e => ⟨Nat.lt_of_lt_of_le (hN g e).1 h.k.size, fun e2 => by
    rcases e2 with e2 | e2
    · exact (hN g e).2 (.inl e2)
    · rcases h.blk g e2 with h' | h'
      · exact (hN g e).2 (.inr h')
      · have := (hN g e).1; omega⟩⟩

theorem biV_findB {l : List Bi} {x : Int} : (∃ y ∈ l, findB (bdsM l) x = some y.bd ∧ biV l x = some y.tv) ∨ (findB (bdsM l) x = none ∧ biV l x = none) := by
  rcases hf : findB (bdsM l) x with _ | z
  · exact .inr ⟨rfl, biV_none.2 hf⟩
  · obtain ⟨y, hy, h1, h2⟩ := biV_some hf
    exact .inl ⟨y, hy, by rw [h1], h2⟩

/-- The world behind an append. -/
def RPushed (f : Int) (xs : List Tm) (u : Tm) (S : Nat → Prop) (zb : Nat) (v : Value) (l : List Bi) (w wx : World) : Prop := ∃ v' l', mtT (.node f xs) (bdsM l) u = some (bdsM l') ∧ (∃ E, bdsM l' = bdsM l ++ E) ∧ l'.length ≤ (Tm.node f xs).size + l.length ∧ RefStep w wx S zb v v' l'

theorem rpushed_of {f : Int} {xs : List Tm} {u : Tm} {S : Nat → Prop} {zb n cv B0 : Nat} {Av : Option Addr} {l : List Bi} {w w4 w5 : World} {A4 : Option Addr} {c4 g5 cap5 : Nat} {l4 : List Ti} {o : Obj} (hM : RefW w S zb (.slice Av l.length cv) l) (hn : l.length = n) (hm : mtT (.node f xs) (bdsM l) u = some (bdsM l ++ [⟨-1 - f, u⟩]))
    (hf : f < 0) (hf1 : I64 f) (hu : I64 u.fn) (hua : u.args.length ≤ 9223372036854775807) (hl4 : l4.map Ti.t = u.args) (hw : w.heap.size ≤ B0) (hb : Below w.heap.size w w4) (hR : RowT w4 B0 (.slice A4 u.args.length c4) l4 (Apart B0 (.slice A4 u.args.length c4) w4))
    (hr : w5.ownsRow 0 51 3 (.slice (some ⟨g5, 0, none⟩) (n + 1) cap5) (n + 1) (l.flatMap Bi.cells ++ [.int .i64 (-1 - f), .int .i64 u.fn, .slice A4 u.args.length c4])) (hg : (w4.alloc o).grownBy w5 (Value.slice Av n cv).ownBlock)
    (hat : (Value.slice (some ⟨g5, 0, none⟩) (n + 1) cap5).ownBlock = (Value.slice Av n cv).ownBlock ∨ (Value.slice (some ⟨g5, 0, none⟩) (n + 1) cap5).ownBlock = some (w4.alloc o).heap.size) :
    RPushed f xs u S zb (.slice Av l.length cv) l w (w5.setCell ⟨zb, 0, none⟩ (.slice (some ⟨g5, 0, none⟩) (n + 1) cap5)) := by
  subst hn
  have h1 := hf1.1
  have h2 := hf1.2
  have hbi : BiFx w4 (fun g => w.heap.size ≤ g ∧ g < w4.heap.size) (⟨-1 - f, u, A4, c4⟩ : Bi) := by
    have hl4l : l4.length = u.args.length := by rw [← hl4, List.length_map]
    obtain ⟨A', c', e, hA4⟩ := hR.argsN (M := fun g => w.heap.size ≤ g ∧ g < w4.heap.size) (by rw [hl4l]; exact hua) (fun g e => by have := row_lt hR.row g e; omega) (fun g e => by have := e.1; have := e.2.1; omega)
    rw [hl4] at hA4
    injection e with e1 _ _
    subst e1
    exact ⟨⟨by show _ ≤ -1 - f; omega, by show -1 - f ≤ _; omega⟩, hu, hA4⟩
  have hst := RefW.push hM hb hbi ((Below.refl _ _).alloc (Nat.le_refl _) _) hr hg hat
  refine ⟨_, _, ?_, ⟨[⟨-1 - f, u⟩], ?_⟩, ?_, hst⟩
  · rw [hm]; unfold bdsM; rw [List.map_append]; rfl
  · unfold bdsM; rw [List.map_append]; rfl
  · rw [List.length_append]; simp only [Tm.size, List.length_cons, List.length_nil]; omega

set_option maxHeartbeats 8000000 in
theorem rterm_var (f : Int) (xs : List Tm) (hf : f < 0) : RTrmAt (.node f xs) := by
  intro u A B c d zb S N v l w hM hN hnum husz hp64 hu64 hA hB
  replace hp64 : I64 f := hp64
  replace hA : ArgsN w N A xs := hA
  show Calls Try.prog 36 #[.pointer (some ⟨zb, 0, none⟩), .agg #[.int .i64 f, .slice A xs.length c], .agg #[.int .i64 u.fn, .slice B u.args.length d]] w (RTrmPost (.node f xs) u S zb v l w)
  obtain ⟨W, hW⟩ : ∃ W, (w.alloc (.cells #[.int .i64 f, .slice A xs.length c] 31)).alloc (.cells #[.int .i64 u.fn, .slice B u.args.length d] 31) = W := ⟨_, rfl⟩
  obtain ⟨hBW, hWz, q0, q1⟩ := box2 (p := .node f xs) hW
  replace q0 : W.heap[w.heap.size]? = some (.cells #[.int .i64 f, .slice A xs.length c] 31) := q0
  have hMW := (RefStep.of_below hM hBW).m
  have hzl := hM.lt zb (hM.own zb (.inl rfl))
  have hll : l.length ≤ 1099511627776 := by have := hnum; simp only [Tm.size] at this; omega
  have hAn : ∀ w1, Below w.heap.size w w1 → ArgsN w1 N A xs := fun w1 h => hA.keep fun g e => h.block g (hN g e).1
  have hBn : ∀ w1, Below w.heap.size w w1 → ArgsN w1 N B u.args := fun w1 h => hB.keep fun g e => h.block g (hN g e).1
  have HX := Lib.hid (fun (w1 : World) (h : KeepsC (OwnZ zb v) W w1) => (⟨(cells_two ((h.k.block w.heap.size ⟨by omega, fun e => by have := hM.lt _ (hM.own _ e); omega⟩).trans q0)).1, (cells_two ((h.k.block w.heap.size ⟨by omega, fun e => by have := hM.lt _ (hM.own _ e); omega⟩).trans q0)).2.1, (cells_two ((h.k.block (w.heap.size + 1) ⟨by omega, fun e => by have := hM.lt _ (hM.own _ e); omega⟩).trans q1)).1, (cells_two ((h.k.block (w.heap.size + 1) ⟨by omega, fun e => by have := hM.lt _ (hM.own _ e); omega⟩).trans q1)).2.1⟩ : w1.cell? ⟨w.heap.size, 0, none⟩ = some (.int .i64 f) ∧ w1.cell? ⟨w.heap.size, 1, none⟩ = some (.slice A xs.length c) ∧ w1.cell? ⟨w.heap.size + 1, 0, none⟩ = some (.int .i64 u.fn) ∧ w1.cell? ⟨w.heap.size + 1, 1, none⟩ = some (.slice B u.args.length d)))
  obtain ⟨x0, x1, x2, x3⟩ := HX.out W (KeepsC.refl _ _)
  have HM := Lib.hid hM
  have HMW := Lib.hid hMW
  have HN := Lib.hid hN
  have HA := Lib.hid (hAn W hBW)
  have HB := Lib.hid (hBn W hBW)
  have HBW := Lib.hid hBW
  have HW := Lib.hid hW
  have hlo := hp64.1
  have hhi := hp64.2
  clear hM hMW hN hA hB hBW hW q0 q1 hAn hBn
  have hf' := decide_eq_true hf
  have hmt := mtT_var hf (xs := xs) (bdsM l) u
  rcases biV_findB (l := l) (x := -1 - f) with ⟨y, hy, hfd, hbv⟩ | ⟨hfd, hbv⟩
  · rw [hfd] at hmt
    have hG := rget_any (-1 - f) zb _ v l W HMW.out (by omega)
    unfold GetZPost at hG
    rw [hbv] at hG
    simp only [Bi.tv] at hG
    have hfx := HMW.out.row.fx y hy
    have hit := hfx.it
    have hya : ∀ w1, Below W.heap.size W w1 → Args w1 w1.heap.size y.A y.t.args := fun w1 h => (hfx.args.keep fun g e => h.block g (HMW.out.lt g e.1)).args fun g e => Nat.lt_of_lt_of_le (HMW.out.lt g e.1) h.size
    have hua : ∀ w1, Below W.heap.size W w1 → Args w1 w1.heap.size B u.args := fun w1 h => (HB.out.keep fun g e => h.block g (by have := (HN.out g e).1; omega)).args fun g e => by have := (HN.out g e).1; have := h.size; omega
    have hS : ∀ w1, Below W.heap.size W w1 → _ := fun w1 h => ref2Same_any' y.t u y.A B y.c d w1 hit hu64 (hya w1 h) (hua w1 h)
    have HS := Lib.hid hS
    have HG := Lib.hid hG
    have Hmt := Lib.hid hmt
    clear hG hS hmt hbv hfd hfx hya hua hy
    have hsome : (mtT (.node f xs) (bdsM l) u).isSome = decide (cmpT y.t u = 0) := by
      rw [Hmt.out]
      show (if cmpT y.t u = 0 then some (bdsM l) else none).isSome = _
      by_cases h : cmpT y.t u = 0
      · rw [if_pos h, decide_eq_true h]; rfl
      · rw [if_neg h, decide_eq_false h]; rfl
    have hval : (mtT (.node f xs) (bdsM l) u).isSome = true → mtT (.node f xs) (bdsM l) u = some (bdsM l) := by
      rw [Hmt.out]
      show (if cmpT y.t u = 0 then some (bdsM l) else none).isSome = true → (if cmpT y.t u = 0 then some (bdsM l) else none) = _
      by_cases h : cmpT y.t u = 0
      · rw [if_pos h]; exact fun _ => rfl
      · rw [if_neg h]; intro h; cases h
    have Hsome := Lib.hid hsome
    have Hval := Lib.hid hval
    clear hsome hval
    go_enter Try.func36, Try.ntmps36
    go_upto_region 1 with fail
    rw [HW.out]
    go_upto_region 4 with (first
      | (go_at_call 63; with_reducible refine HG.out.mono ?_; go_must (rintro e w1 ⟨hb1, rfl⟩; obtain ⟨y0, y1, y2, y3⟩ := HX.out w1 (KeepsC.of_below hb1)))
      | fail)
    obtain ⟨w2, hw2⟩ : ∃ w2, w1.alloc (.cells #[.int .i64 y.t.fn, .slice y.A y.t.args.length y.c] 31) = w2 := ⟨_, rfl⟩
    have hb2 : Below w1.heap.size w1 w2 := by rw [← hw2]; exact (Below.refl _ _).alloc (Nat.le_refl _) _
    have hB2 := hb1.trans (hb2.mono hb1.size)
    have q2 := heap_alloc_new w1 (.cells #[.int .i64 y.t.fn, .slice y.A y.t.args.length y.c] 31)
    rw [hw2] at q2 ⊢
    obtain ⟨z0, z1, _, _⟩ := cells_two q2
    obtain ⟨u0, u1, u2, u3⟩ := HX.out w2 (KeepsC.of_below hB2)
    have HS2 := Lib.hid (HS.out w2 hB2)
    clear hw2 q2
    go_wp2_with (first
      | (go_at_call 27; with_reducible refine HS2.out.mono ?_; go_must (rintro e w3 ⟨rfl, hb3⟩))
      | fail)
    go_ret
    have hB3 := hB2.trans (hb3.mono hB2.size)
    exact ⟨v, l, ret_bool Hsome.out.symm, Hval.out, ⟨[], by simp⟩, by omega, RefStep.of_below HM.out (HBW.out.trans (hB3.mono HBW.out.size))⟩
  · rw [hfd] at hmt
    have hG := rget_any (-1 - f) zb _ v l W HMW.out (by omega)
    unfold GetZPost at hG
    rw [hbv] at hG
    have HG := Lib.hid hG
    have Hmt := Lib.hid hmt
    clear hG hmt hbv hfd
    go_enter Try.func36, Try.ntmps36
    go_upto_region 1 with fail
    rw [HW.out]
    go_upto_region 5 with (first
      | (go_at_call 63; with_reducible refine HG.out.mono ?_; go_must (rintro e w1 ⟨hb1, rfl⟩; obtain ⟨y0, y1, y2, y3⟩ := HX.out w1 (KeepsC.of_below hb1)))
      | fail)
    obtain ⟨i0, hi, hz0, hz1, hz2⟩ := info_parts info_bind
    obtain ⟨w2, hw2⟩ : ∃ w2, w1.alloc (.cells #[.int .i64 0, .slice none 0 0] 31) = w2 := ⟨_, rfl⟩
    have hb2 : Below w1.heap.size w1 w2 := by rw [← hw2]; exact (Below.refl _ _).alloc (Nat.le_refl _) _
    have hB2 := hb1.trans (hb2.mono hb1.size)
    have hBw2 := HBW.out.trans (hB2.mono HBW.out.size)
    rw [hw2]
    clear hw2
    obtain ⟨Av, cv, hv⟩ := HM.out.slice
    subst hv
    obtain ⟨n, hn⟩ : ∃ n, l.length = n := ⟨_, rfl⟩
    have hrow := HM.out.row.row
    rw [hn] at hrow
    have hrl := row_lt hrow
    have hbx := HM.out.box
    rw [hn] at hbx
    have hav := HM.out.av
    rw [hn] at hav
    have Hn := Lib.hid hn
    have hBd : Below w2.heap.size w2 w2.drew := bl_drewN (Below.refl _ _) 1
    have hBwd := hBw2.trans (hBd.mono hBw2.size)
    have hua : Args w2.drew w2.drew.heap.size B u.args := (HB.out.keep fun g e => (hB2.trans (hBd.mono hB2.size)).block g (by have := (HN.out g e).1; omega)).args fun g e => by have := (HN.out g e).1; have := hBwd.size; omega
    have HC := Lib.hid (refCopy_any u husz B d w2.drew hu64 hua)
    have hua0 : u.args.length ≤ 9223372036854775807 := HB.out.len
    have hSS : ∀ w', Below w2.heap.size w2 w' → (w'.cell? ⟨w.heap.size, 0, none⟩ = some (.int .i64 f) ∧ w'.cell? ⟨w.heap.size + 1, 0, none⟩ = some (.int .i64 u.fn) ∧ w'.cell? ⟨w.heap.size + 1, 1, none⟩ = some (.slice B u.args.length d)) ∧ w'.cell? ⟨zb, 0, none⟩ = some (.slice Av n cv) := fun w' h => by
      obtain ⟨a1, _, a3, a4⟩ := HX.out w' (KeepsC.of_below (hB2.trans (h.mono hB2.size)))
      exact ⟨⟨a1, a3, a4⟩, cells_n (((hBw2.trans (h.mono hBw2.size)).block zb hzl).trans hbx) 0 _ rfl⟩
    have hBX : ∀ w' : World, (∀ g, g < w.heap.size → (Value.slice Av n cv).ownBlock ≠ some g → w'.heap[g]? = w.heap[g]?) → w'.cell? ⟨zb, 0, none⟩ = some (.slice Av n cv) ∧ w'.frozen? ⟨zb, 0, none⟩ = false := fun w' h => by
      have hq := (h zb hzl hav).trans hbx
      exact ⟨cells_n hq 0 _ rfl, by simp [World.frozen?, hq]⟩
    have HSS := Lib.hid hSS
    have HBX := Lib.hid hBX
    have Hrow := Lib.hid hrow
    obtain ⟨⟨s0, s1, s2⟩, s3⟩ := hSS w2.drew hBd
    have hwr : IntKind.i64.wrap (-1 - f) = -1 - f := by rw [IntKind.wrap_i64]; omega
    have hnn : n ≤ 1099511627776 := by omega
    have Hav := Lib.hid hav
    clear hn hrow hbx hSS hBX hua hav HX HG
    go_cut [] (fun wx => RPushed f xs u S zb (.slice Av l.length cv) l w wx)
    case rest =>
      obtain ⟨v', l', h1, h2, h3, h4⟩ := hcut
      go_wp2
      go_ret
      exact ⟨v', l', ret_bool (by rw [h1]; rfl), fun _ => h1, h2, h3, h4⟩
    case first =>
     go_region_law
      (first
        | (go_simp
           go_at_call 43
           with_reducible refine HC.out.mono ?_
           rintro e w4 ⟨v4, l4, rfl, hl4, hR4, hb4⟩
           have hB4 : Below w2.heap.size w2 w4 := hBd.trans (hb4.mono hBd.size)
           obtain ⟨A4, c4, hv4⟩ := row_own hR4.row
           have hl4l : l4.length = u.args.length := by rw [← hl4, List.length_map]
           rw [hl4l] at hv4
           have HR4 := Lib.hid hR4
           have Hl4 := Lib.hid hl4
           obtain ⟨⟨k0, k1, k2⟩, k3⟩ := HSS.out _ hB4
           obtain ⟨_, k3'⟩ := HSS.out _ (hB4.alloc hB4.size (.cells #[.int .i64 (-1 - f), .int .i64 u.fn, .slice A4 u.args.length c4] 51))
           subst hv4
           have hBw4 := Lib.hid (hBw2.trans (hB4.mono hBw2.size))
           clear hR4 hl4
           dsimp only)
        | (refine step_append_at rfl (.tmp 29) (.tmp 36) 26 rfl 0 51 i0 (.agg #[.int .i64 0, .int .i64 0, .slice none 0 0]) 3 40 Try.underlying26 hi hz0 hz1 hz2 rfl (by decide) (.slice Av n cv) n _ (by simp [Act.eval]) (row_keep Hrow.out fun g e => (Below.heap_alloc w4 _ g (Nat.lt_of_lt_of_le (hrl g e).2 hBw4.out.size)).trans (hBw4.out.block g (hrl g e).2)) ⟨w4.heap.size, 0, none⟩ 1 1 [.int .i64 (-1 - f), .int .i64 u.fn, .slice A4 u.args.length c4] (by simp [Act.eval]) rfl (cells_new_bind _ _ _ _ _) (by simp [Value.oneCell']) (by unfold maxLen; omega) (by omega) (Nat.zero_le _) ?_
           intro v5 w5 hown5 hgr5 hat5
           have hK5 : ∀ g, g < w.heap.size → (Value.slice Av n cv).ownBlock ≠ some g → w5.heap[g]? = w.heap[g]? := fun g h1 h2 => (hgr5.block g (by have := hBw4.out.size; simp; omega) (fun e => h2 e.symm)).trans ((Below.heap_alloc w4 _ g (by have := hBw4.out.size; omega)).trans (hBw4.out.block g h1))
           obtain ⟨m1, mf⟩ := HBX.out w5 hK5
           obtain ⟨g5, cap5, hv5⟩ := ownsRow_succ hown5
           have Hown5 := Lib.hid hown5
           have Hgr5 := Lib.hid hgr5
           have Hat5 := Lib.hid hat5
           subst hv5
           clear hown5 hgr5 hat5 hK5)
        | fail)
     all_goals
      have hfin := rpushed_of HM.out Hn.out Hmt.out hf hp64 hu64 hua0 Hl4.out hBwd.size hBw4.out HR4.out Hown5.out Hgr5.out Hat5.out
      go_wp2_with fail
      go_meet
      exact hfin

end Go.Proofs.Ytglfjmbclimeeaa

/- match: the document's own matcher: term, walked: a symbol. -/

namespace Go.Proofs.Ytglfjmbclimeeaa

open Go.RowKit Go.Shelf
set_option maxRecDepth 100000

/-- What the loop over the arguments holds. -/
structure RLoopI (W wr : World) (S : Nat → Prop) (zb : Nat) (v : Value) (l : List Bi) (xs us : List Tm) (k : Nat) (v' : Value) (l' : List Bi) : Prop where
  mt : mtL (xs.take k) (bdsM l) (us.take k) = some (bdsM l')
  ex : ∃ E, bdsM l' = bdsM l ++ E
  ln : l'.length ≤ sizes (xs.take k) + l.length
  st : RefStep W wr S zb v v' l'

set_option maxHeartbeats 8000000 in
theorem rterm_any (p : Tm) : RTrmAt p := by
  refine Tm.ind (P := RTrmAt) (fun f xs ih => ?_) p
  by_cases hf : f < 0
  · exact rterm_var f xs hf
  intro u A B c d zb S N v l w hM hN hnum husz hp64 hu64 hA hB
  replace hp64 : I64 f := hp64
  replace hA : ArgsN w N A xs := hA
  show Calls Try.prog 36 #[.pointer (some ⟨zb, 0, none⟩), .agg #[.int .i64 f, .slice A xs.length c], .agg #[.int .i64 u.fn, .slice B u.args.length d]] w (RTrmPost (.node f xs) u S zb v l w)
  obtain ⟨W, hW⟩ : ∃ W, (w.alloc (.cells #[.int .i64 f, .slice A xs.length c] 31)).alloc (.cells #[.int .i64 u.fn, .slice B u.args.length d] 31) = W := ⟨_, rfl⟩
  obtain ⟨hBW, hWz, q0, q1⟩ := box2 (p := .node f xs) hW
  replace q0 : W.heap[w.heap.size]? = some (.cells #[.int .i64 f, .slice A xs.length c] 31) := q0
  have hMW := (RefStep.of_below hM hBW).m
  have hll : sizes xs + l.length ≤ 1099511627776 := by have := hnum; simp only [Tm.size] at this; omega
  have hlen : xs.length ≤ 1099511627776 := by have := sizes_len xs; omega
  have HX := Lib.hid (fun (w1 : World) (h : KeepsC (OwnZ zb v) W w1) => (⟨(cells_two ((h.k.block w.heap.size ⟨by omega, fun e => by have := hM.lt _ (hM.own _ e); omega⟩).trans q0)).1, (cells_two ((h.k.block w.heap.size ⟨by omega, fun e => by have := hM.lt _ (hM.own _ e); omega⟩).trans q0)).2.1, (cells_two ((h.k.block (w.heap.size + 1) ⟨by omega, fun e => by have := hM.lt _ (hM.own _ e); omega⟩).trans q1)).1, (cells_two ((h.k.block (w.heap.size + 1) ⟨by omega, fun e => by have := hM.lt _ (hM.own _ e); omega⟩).trans q1)).2.1⟩ : w1.cell? ⟨w.heap.size, 0, none⟩ = some (.int .i64 f) ∧ w1.cell? ⟨w.heap.size, 1, none⟩ = some (.slice A xs.length c) ∧ w1.cell? ⟨w.heap.size + 1, 0, none⟩ = some (.int .i64 u.fn) ∧ w1.cell? ⟨w.heap.size + 1, 1, none⟩ = some (.slice B u.args.length d)))
  obtain ⟨x0, x1, x2, x3⟩ := HX.out W (KeepsC.refl _ _)
  have hNW : ∀ g, N g → g < W.heap.size ∧ ¬ OwnZ zb v g := fun g e => ⟨by have := (hN g e).1; omega, (hN g e).2⟩
  have HM := Lib.hid hM
  have HN := Lib.hid hNW
  have HA := Lib.hid (hA.keep (w' := W) fun g e => hBW.block g (hN g e).1)
  have HB := Lib.hid (hB.keep (w' := W) fun g e => hBW.block g (hN g e).1)
  have HBW := Lib.hid hBW
  have HW := Lib.hid hW
  have Hmt := Lib.hid (mtT_sym hf (xs := xs) (bdsM l) u)
  have hst0 : RefStep W W (fun g => S g ∨ (w.heap.size ≤ g ∧ g < W.heap.size)) zb v v l := .of_below hMW (Below.refl _ _)
  have HI0 : Hid (RLoopI W W (fun g => S g ∨ (w.heap.size ≤ g ∧ g < W.heap.size)) zb v l xs u.args 0 v l) := ⟨by simp [mtL], ⟨[], by simp⟩, by simp [sizes], hst0⟩
  have ih := Lib.hid ih
  have hf' := decide_eq_false hf
  clear hM hMW hN hNW hA hB hBW hW q0 q1 hst0
  by_cases h1 : f = u.fn
  · by_cases h2 : xs.length = u.args.length
    · have hres : mtT (.node f xs) (bdsM l) u = mtL xs (bdsM l) u.args := by rw [Hmt.out, if_pos ⟨h1, h2⟩]
      have Hres := Lib.hid hres
      have g1 : (f != u.fn) = false := by simp [h1]
      have g2 : ((xs.length : Int) != (u.args.length : Int)) = false := by simp [h2]
      have h3 := Lib.hid h2
      have Huf := Lib.hid h1
      clear h1 h2 hres
      go_enter Try.func36, Try.ntmps36
      go_upto_region 1 with fail
      rw [HW.out]
      go_wp2
      go_loopw [9] (fun i wr => ∃ (k : Nat) (v' : Value) (l' : List Bi), k ≤ xs.length ∧ i = .int .i64 (k : Int) ∧ Hid (RLoopI W wr (fun g => S g ∨ (w.heap.size ≤ g ∧ g < W.heap.size)) zb v l xs u.args k v' l')) (fun i _ => xs.length - (intOf i).toNat)
      case atStart => exact ⟨0, v, l, Nat.zero_le _, rfl, HI0⟩
      case round =>
        obtain ⟨k, v', l', hk, rfl, H⟩ := hrel
        obtain ⟨y0, y1, y2, y3⟩ := HX.out wr H.out.st.k
        by_cases hlt : k < xs.length
        · obtain ⟨x, hx⟩ : ∃ x, xs[k]? = some x := ⟨_, List.getElem?_eq_getElem hlt⟩
          have hlt2 : k < u.args.length := by have := h3.out; omega
          obtain ⟨y, hy⟩ : ∃ y, u.args[k]? = some y := ⟨_, List.getElem?_eq_getElem hlt2⟩
          have hBd : Below wr.heap.size wr wr.drew := bl_drewN (Below.refl _ _) 1
          have hst := H.out.st.below hBd
          obtain ⟨hk1, hk2⟩ := hst.stay HN.out
          have hAr := HA.out.keep hk1
          have hBr := HB.out.keep hk1
          obtain ⟨bb, off, E1, e1, rfl, ha⟩ := hAr.get hx
          obtain ⟨bb2, off2, E2, e2, rfl, hb⟩ := hBr.get hy
          have m0 := ha.c0
          have m1 := ha.c1
          have m2 := hb.c0
          have m3 := hb.c1
          obtain ⟨s1, s2⟩ := sizes_upto hx
          have hys : y.size ≤ u.size := by
            have := size_mem (List.mem_of_getElem? hy)
            cases u with | node g us => simp only [Tm.size, Tm.args] at this ⊢; omega
          have hln := H.out.ln
          have HC := Lib.hid (ih.out x (List.mem_of_getElem? hx) y E1 E2 e1 e2 zb _ N v' l' wr.drew hst.m hk2 (by omega) (by omega) ha.hi hb.hi ha.sub hb.sub)
          obtain ⟨z0, z1, z2, z3⟩ := HX.out wr.drew hst.k
          have Hst := Lib.hid hst
          have Hx := Lib.hid hx
          have Hy := Lib.hid hy
          have hnx := Lib.hid (mtL_next (M := bdsM l) h3.out hx hy H.out.mt)
          clear hst hx hy hAr hBr ha hb hk1 hk2 hBd g2
          obtain ⟨r, hr⟩ : ∃ r, mtT x (bdsM l') y = r := ⟨_, rfl⟩
          unfold RTrmPost at HC
          rw [hr] at HC hnx
          clear hr
          cases r with
          | none =>
            have hres : mtT (.node f xs) (bdsM l) u = none := by rw [Hres.out]; exact mtL_stop h3.out hnx.out
            have Hr2 := Lib.hid hres
            clear hres
            go_upto_region 12 with fail
            go_region_law
              (first
                | (go_simp
                   go_at_call 36
                   with_reducible refine HC.out.mono ?_
                   rintro e w4 ⟨v4, l4, rfl, _, he4, hn4, hs4⟩
                   dsimp only)
                | fail)
            all_goals
              have hfin := RefStep.pre HM.out HBW.out (Hst.out.trans hs4)
              have hex : ∃ E, bdsM l4 = bdsM l ++ E := by
                obtain ⟨E, hE⟩ := he4
                obtain ⟨E', hE'⟩ := H.out.ex
                exact ⟨E' ++ E, by rw [hE, hE', List.append_assoc]⟩
              go_wp2
              go_ret
              exact ⟨v4, l4, ret_bool (by rw [Hr2.out]; rfl), fun h => (by rw [Hr2.out] at h; cases h), hex, by simp only [Tm.size]; omega, hfin⟩
          | some M4 =>
            go_upto_region 12 with fail
            go_region_law
              (first
                | (go_simp
                   go_at_call 36
                   with_reducible refine HC.out.mono ?_
                   rintro e w4 ⟨v4, l4, rfl, hm4, he4, hn4, hs4⟩
                   dsimp only)
                | fail)
            all_goals
              have hI : Hid (RLoopI W w4 (fun g => S g ∨ (w.heap.size ≤ g ∧ g < W.heap.size)) zb v l xs u.args (k + 1) v4 l4) := Lib.hid ⟨by rw [hnx.out]; exact hm4 rfl, by
                obtain ⟨E, hE⟩ := he4
                obtain ⟨E', hE'⟩ := H.out.ex
                exact ⟨E' ++ E, by rw [hE, hE', List.append_assoc]⟩, by rw [s1]; omega, Hst.out.trans hs4⟩
              go_wp2
              go_roundw
              case rel => exact ⟨k + 1, v4, l4, by omega, by go_num, hI⟩
              case measure => simp [intOf]; omega
        · obtain rfl : k = xs.length := by omega
          have hmt : mtL xs (bdsM l) u.args = some (bdsM l') := by
            have := H.out.mt
            rw [List.take_length, h3.out, List.take_length] at this
            exact this
          have hln : l'.length ≤ sizes xs + l.length := by
            have := H.out.ln
            rw [List.take_length] at this
            exact this
          have Hm2 := Lib.hid (Hres.out.trans hmt)
          clear hmt
          go_wp2
          go_ret
          exact ⟨v', l', ret_bool (by rw [Hm2.out]; rfl), fun _ => Hm2.out, H.out.ex, by simp only [Tm.size]; omega, RefStep.pre HM.out HBW.out H.out.st⟩
    · have hres := Lib.hid (show mtT (.node f xs) (bdsM l) u = none by rw [Hmt.out, if_neg (fun h => h2 h.2)])
      have g1 : (f != u.fn) = false := by simp [h1]
      have g2 : ((xs.length : Int) != (u.args.length : Int)) = true := by simp; omega
      clear h1 h2
      go_enter Try.func36, Try.ntmps36
      go_upto_region 1 with fail
      rw [HW.out]
      go_wp2
      go_ret
      exact ⟨v, l, ret_bool (by rw [hres.out]; rfl), fun h => (by rw [hres.out] at h; cases h), ⟨[], by simp⟩, by omega, RefStep.of_below HM.out HBW.out⟩
  · have hres := Lib.hid (show mtT (.node f xs) (bdsM l) u = none by rw [Hmt.out, if_neg (fun h => h1 h.1)])
    have g1 : (f != u.fn) = true := by simp [h1]
    clear h1
    go_enter Try.func36, Try.ntmps36
    go_upto_region 1 with fail
    rw [HW.out]
    go_wp2
    go_ret
    exact ⟨v, l, ret_bool (by rw [hres.out]; rfl), fun h => (by rw [hres.out] at h; cases h), ⟨[], by simp⟩, by omega, RefStep.of_below HM.out HBW.out⟩

end Go.Proofs.Ytglfjmbclimeeaa

/- match: the document's own matcher: Term, walked. -/

namespace Go.Proofs.Ytglfjmbclimeeaa

open Go.RowKit Go.Shelf
set_option maxRecDepth 100000

/-- What a cut back asks for, and gives. -/
structure RCutF (w wx : World) (S : Nat → Prop) (zb : Nat) (v : Value) (l : List Bi) (l' : List Bi) (A : Option Addr) (c : Nat) : Prop where
  c0 : wx.cell? ⟨zb, 0, none⟩ = some (.slice A l'.length c)
  f0 : wx.frozen? ⟨zb, 0, none⟩ = false
  cap : l'.length ≤ c
  le : l.length ≤ l'.length
  fin : ∃ l2, bdsM l2 = bdsM l ∧ RefStep w (wx.setCell ⟨zb, 0, none⟩ (.slice A l.length c)) S zb v (.slice A l.length c) l2

theorem rcut_of {w wx : World} {S : Nat → Prop} {zb : Nat} {v v' : Value} {l l' : List Bi} (h : RefStep w wx S zb v v' l') (he : ∃ E, bdsM l' = bdsM l ++ E) : ∃ A c, v' = .slice A l'.length c ∧ RCutF w wx S zb v l l' A c := by
  obtain ⟨A, c, rfl⟩ := h.m.slice
  obtain ⟨E, hE⟩ := he
  have hle : l.length ≤ l'.length := by
    have := congrArg List.length hE
    unfold bdsM at this
    simp only [List.length_map, List.length_append] at this
    omega
  refine ⟨A, c, rfl, cells_n h.m.box 0 _ rfl, by simp [World.frozen?, h.m.box], row_cap h.m.row.row, hle, l'.take l.length, ?_, h.trans (h.m.cut hle)⟩
  unfold bdsM at hE ⊢
  rw [List.map_take, hE]
  have : l.length = (l.map Bi.bd).length := by rw [List.length_map]
  rw [this, List.take_left']
  rfl

/-- What Term of the document's does. -/
def RTmPost (p u : Tm) (S : Nat → Prop) (zb : Nat) (v : Value) (l : List Bi) (w : World) (e : Ending) (w' : World) : Prop :=
  ∃ v' l', e = .returned (.bool (trmB (bdsM l) p u)) ∧ bdsM l' = trmM (bdsM l) p u ∧ RefStep w w' S zb v v' l'

set_option maxHeartbeats 4000000 in
theorem rTerm_any (p u : Tm) (A B : Option Addr) (c d zb : Nat) (S N : Nat → Prop) (v : Value) (l : List Bi) (w : World) (hM : RefW w S zb v l) (hok : MOk (bdsM l)) (hN : ∀ g, N g → g < w.heap.size ∧ ¬ OwnZ zb v g) (hnum : p.size + l.length ≤ 1099511627776) (husz : u.size ≤ 4398046511104)
    (hp64 : I64 p.fn) (hu64 : I64 u.fn) (hA : ArgsN w N A p.args) (hB : ArgsN w N B u.args) :
    Calls Try.prog 10 #[.pointer (some ⟨zb, 0, none⟩), .agg #[.int .i64 p.fn, .slice A p.args.length c], .agg #[.int .i64 u.fn, .slice B u.args.length d]] w (RTmPost p u S zb v l w) := by
  obtain ⟨W, hW⟩ : ∃ W, (w.alloc (.cells #[.int .i64 p.fn, .slice A p.args.length c] 31)).alloc (.cells #[.int .i64 u.fn, .slice B u.args.length d] 31) = W := ⟨_, rfl⟩
  obtain ⟨hBW, hWz, q0, q1⟩ := box2 hW
  have hwk := (wk_mt p (bdsM l) u hok).eq
  have hst0 := RefStep.of_below hM hBW
  have hnw : ∀ w1, Below w.heap.size w w1 → (∀ g, N g → g < w1.heap.size ∧ ¬ OwnZ zb v g) ∧ ArgsN w1 N A p.args ∧ ArgsN w1 N B u.args := fun w1 h => ⟨fun g e => ⟨by have := (hN g e).1; have := h.size; omega, (hN g e).2⟩, hA.keep fun g e => h.block g (hN g e).1, hB.keep fun g e => h.block g (hN g e).1⟩
  have ha : ∀ w1, Below w.heap.size w w1 → Args w1 w1.heap.size A p.args ∧ Args w1 w1.heap.size B u.args := fun w1 h => ⟨(hnw w1 h).2.1.args fun g e => ((hnw w1 h).1 g e).1, (hnw w1 h).2.2.args fun g e => ((hnw w1 h).1 g e).1⟩
  have HX := Lib.hid (fun (w1 : World) (h : Below W.heap.size W w1) => (⟨(cells_two ((h.block _ (by omega)).trans q0)).1, (cells_two ((h.block _ (by omega)).trans q0)).2.1, (cells_two ((h.block _ (by omega)).trans q1)).1, (cells_two ((h.block _ (by omega)).trans q1)).2.1⟩ : w1.cell? ⟨w.heap.size, 0, none⟩ = some (.int .i64 p.fn) ∧ w1.cell? ⟨w.heap.size, 1, none⟩ = some (.slice A p.args.length c) ∧ w1.cell? ⟨w.heap.size + 1, 0, none⟩ = some (.int .i64 u.fn) ∧ w1.cell? ⟨w.heap.size + 1, 1, none⟩ = some (.slice B u.args.length d)))
  obtain ⟨x0, x1, x2, x3⟩ := HX.out W (Below.refl _ _)
  have hc0 : ∀ w1, Below w.heap.size w w1 → w1.cell? ⟨zb, 0, none⟩ = some v := fun w1 h => cells_n ((hM.on h).box) 0 _ rfl
  have hcut := fun w1 (h : Below w.heap.size w w1) => rcut_of (RefStep.of_below hM h) (⟨[], by simp⟩ : ∃ E, bdsM l = bdsM l ++ E)
  obtain ⟨Av, cv, rfl⟩ := hM.slice
  have z0 := hc0 W hBW
  have hP1 := rplain_any p A c W hp64 (ha W hBW).1
  have hP2 : ∀ w1, Below w.heap.size w w1 → _ := fun w1 h => rplain_any u B d w1 hu64 (ha w1 h).2
  have hT : ∀ w1, Below w.heap.size w w1 → _ := fun w1 h => rterm_any p u A B c d zb _ N (.slice Av l.length cv) l w1 (RefStep.of_below hM h).m (hnw w1 h).1 hnum husz hp64 hu64 (hnw w1 h).2.1 (hnw w1 h).2.2
  have HM := Lib.hid hM
  have HC0 := Lib.hid hc0
  have Hcut := Lib.hid hcut
  have HT := Lib.hid hT
  have HBW := Lib.hid hBW
  have HW := Lib.hid hW
  have Hwk := Lib.hid hwk
  clear hW q0 q1 hA hB hN hnw ha hM hok hst0 hc0 hcut hT hwk hBW
  rcases e1 : plainT p with _ | _
  · have hno := Lib.hid (show wkT p (bdsM l) u = none by rw [Hwk.out, e1]; rfl)
    rw [e1] at hP1
    have HP1 := Lib.hid hP1
    clear hP1 hP2 e1
    go_enter Try.func10, Try.ntmps10
    go_upto_region 1 with fail
    rw [HW.out]
    go_upto_region 4 with (first
      | (go_at_call 35; (with_reducible refine HP1.out.mono ?_); go_must (rintro e w1 ⟨rfl, hb1⟩; have hB1 := HBW.out.trans (hb1.mono HBW.out.size)))
      | fail)
    obtain ⟨A2, c2, hv2, hF⟩ := Hcut.out w1 hB1
    injection hv2 with e2 _ e3
    subst e2; subst e3
    have s0 := hF.c0
    have s1 := hF.f0
    have s2 := hF.cap
    obtain ⟨l2, hl2, hfin⟩ := hF.fin
    have Hfin := Lib.hid hfin
    have Hl2 := Lib.hid hl2
    clear hF hfin hl2
    have f1 : (l.length : Int) ≤ (cv : Int) := by omega
    have f2 : (0 : Int) ≤ (l.length : Int) := by omega
    have f3 : ((l.length : Int)).toNat = l.length := by omega
    clear HM HC0 Hcut HT
    go_wp2
    go_ret
    exact ⟨_, l2, ret_bool (by unfold trmB; rw [hno.out]; rfl), by rw [Hl2.out]; unfold trmM; rw [hno.out]; rfl, Hfin.out⟩
  rcases e2 : plainT u with _ | _
  · have hno := Lib.hid (show wkT p (bdsM l) u = none by rw [Hwk.out, e2]; simp)
    rw [e1] at hP1
    rw [e2] at hP2
    have HP1 := Lib.hid hP1
    have HP2 := Lib.hid hP2
    clear hP1 hP2 e1 e2
    go_enter Try.func10, Try.ntmps10
    go_upto_region 1 with fail
    rw [HW.out]
    go_upto_region 4 with (first
      | (go_at_call 35; (with_reducible refine HP1.out.mono ?_); go_must (rintro e w1 ⟨rfl, hb1⟩; have hB1 := HBW.out.trans (hb1.mono HBW.out.size); obtain ⟨y0, y1, y2, y3⟩ := HX.out w1 hb1; have HP3 := Lib.hid (HP2.out w1 hB1)))
      | (go_at_call 35; (with_reducible refine HP3.out.mono ?_); go_must (rintro e w2 ⟨rfl, hb2⟩; have hB2 := hB1.trans (hb2.mono hB1.size)))
      | fail)
    obtain ⟨A2, c2, hv2, hF⟩ := Hcut.out w2 hB2
    injection hv2 with e2 _ e3
    subst e2; subst e3
    have s0 := hF.c0
    have s1 := hF.f0
    have s2 := hF.cap
    obtain ⟨l2, hl2, hfin⟩ := hF.fin
    have Hfin := Lib.hid hfin
    have Hl2 := Lib.hid hl2
    clear hF hfin hl2
    have f1 : (l.length : Int) ≤ (cv : Int) := by omega
    have f2 : (0 : Int) ≤ (l.length : Int) := by omega
    have f3 : ((l.length : Int)).toNat = l.length := by omega
    clear HM HC0 Hcut HT
    go_wp2
    go_ret
    exact ⟨_, l2, ret_bool (by unfold trmB; rw [hno.out]; rfl), by rw [Hl2.out]; unfold trmM; rw [hno.out]; rfl, Hfin.out⟩
  have hyes : wkT p (bdsM l) u = mtT p (bdsM l) u := by rw [Hwk.out, e1, e2]; rfl
  rw [e1] at hP1
  rw [e2] at hP2
  have HP1 := Lib.hid hP1
  have HP2 := Lib.hid hP2
  clear hP1 hP2 e1 e2
  unfold RTrmPost at HT
  rw [← hyes] at HT
  clear hyes
  rcases er : wkT p (bdsM l) u with _ | M'
  · rw [er] at HT
    have hno := Lib.hid er
    clear er
    go_enter Try.func10, Try.ntmps10
    go_upto_region 1 with fail
    rw [HW.out]
    go_upto_region 4 with (first
      | (go_at_call 35; (with_reducible refine HP1.out.mono ?_); go_must (rintro e w1 ⟨rfl, hb1⟩; have hB1 := HBW.out.trans (hb1.mono HBW.out.size); obtain ⟨y0, y1, y2, y3⟩ := HX.out w1 hb1; have HP3 := Lib.hid (HP2.out w1 hB1)))
      | (go_at_call 35; (with_reducible refine HP3.out.mono ?_); go_must (rintro e w2 ⟨rfl, hb2⟩; have hB2 := hB1.trans (hb2.mono hB1.size); obtain ⟨r0, r1, r2, r3⟩ := HX.out w2 (hb1.trans (hb2.mono hb1.size)); have HT2 := Lib.hid (HT.out w2 hB2)))
      | (go_at_call 36; (with_reducible refine HT2.out.mono ?_); go_must (rintro e w3 ⟨v3, l3, rfl, _, he3, _, hs3⟩))
      | fail)
    obtain ⟨A2, c2, hv2, hF⟩ := rcut_of (RefStep.pre HM.out hB2 hs3) he3
    subst hv2
    have s0 := hF.c0
    have s1 := hF.f0
    have s2 := hF.cap
    have s3 := hF.le
    obtain ⟨l2, hl2, hfin⟩ := hF.fin
    have Hfin := Lib.hid hfin
    have Hl2 := Lib.hid hl2
    clear hF hfin hl2 hs3 he3
    have f1 : (l.length : Int) ≤ (c2 : Int) := by omega
    have f2 : (0 : Int) ≤ (l.length : Int) := by omega
    have f3 : ((l.length : Int)).toNat = l.length := by omega
    clear HM HC0 Hcut HT HT2
    go_wp2
    go_ret
    exact ⟨_, l2, ret_bool (by unfold trmB; rw [hno.out]; rfl), by rw [Hl2.out]; unfold trmM; rw [hno.out]; rfl, Hfin.out⟩
  · rw [er] at HT
    have hsm := Lib.hid er
    clear er
    go_enter Try.func10, Try.ntmps10
    go_upto_region 1 with fail
    rw [HW.out]
    go_wp2_with (first
      | (go_at_call 35; (with_reducible refine HP1.out.mono ?_); go_must (rintro e w1 ⟨rfl, hb1⟩; have hB1 := HBW.out.trans (hb1.mono HBW.out.size); obtain ⟨y0, y1, y2, y3⟩ := HX.out w1 hb1; have HP3 := Lib.hid (HP2.out w1 hB1)))
      | (go_at_call 35; (with_reducible refine HP3.out.mono ?_); go_must (rintro e w2 ⟨rfl, hb2⟩; have hB2 := hB1.trans (hb2.mono hB1.size); obtain ⟨r0, r1, r2, r3⟩ := HX.out w2 (hb1.trans (hb2.mono hb1.size)); have HT2 := Lib.hid (HT.out w2 hB2)))
      | (go_at_call 36; (with_reducible refine HT2.out.mono ?_); go_must (rintro e w3 ⟨v3, l3, rfl, hm3, he3, _, hs3⟩))
      | fail)
    go_ret
    have hml : M' = bdsM l3 := by have := hm3 rfl; injection this
    exact ⟨v3, l3, ret_bool (by unfold trmB; rw [hsm.out]; rfl), by rw [← hml]; unfold trmM; rw [hsm.out]; rfl, RefStep.pre HM.out hB2 hs3⟩

end Go.Proofs.Ytglfjmbclimeeaa

/- match: the document's own matcher: Subst, walked. -/

namespace Go.Proofs.Ytglfjmbclimeeaa

open Go.RowKit Go.Shelf
set_option maxRecDepth 100000

theorem CmpI.nextN {n0 k : Nat} {wr w4 w5 : World} {L : List Bd} {v v5 : Value} {l : List Bi} {x : Bd} {A4 : Option Addr} {c4 : Nat} {o : Obj} (h : CmpI n0 wr L v l) (hk : L.length = k) (hn : n0 ≤ wr.heap.size) (hv : I64 x.v) (hi : I64 x.t.fn)
    (hO : ArgsN w4 (fun g => wr.heap.size ≤ g ∧ g < w4.heap.size) A4 x.t.args) (hb4 : Below wr.heap.size wr w4) (hown : w5.ownsRow n0 51 3 v5 (k + 1) (l.flatMap Bi.cells ++ (⟨x.v, x.t, A4, c4⟩ : Bi).cells))
    (hgr : (w4.alloc o).grownBy w5 v.ownBlock) (hat : v5.ownBlock = v.ownBlock ∨ v5.ownBlock = some (w4.alloc o).heap.size) : CmpI n0 w5 (L ++ [x]) v5 (l ++ [⟨x.v, x.t, A4, c4⟩]) := by
  have hlt := row_lt h.row.row
  have hs4 := hb4.size
  have hs5 := hgr.size
  have hK : ∀ g, g < wr.heap.size → v.ownBlock ≠ some g → w5.heap[g]? = wr.heap[g]? := fun g h1 h2 => (hgr.block g (by simp; omega) (fun e => h2 e.symm)).trans ((Below.heap_alloc w4 o g (by omega)).trans (hb4.block g h1))
  have hK4 : ∀ g, g < w4.heap.size → v.ownBlock ≠ some g → w5.heap[g]? = w4.heap[g]? := fun g h1 h2 => (hgr.block g (by simp; omega) (fun e => h2 e.symm)).trans (Below.heap_alloc w4 o g h1)
  have hv5 : ∀ g, g < wr.heap.size → v.ownBlock ≠ some g → v5.ownBlock ≠ some g := fun g h1 h2 e => by
    rcases hat with h3 | h3
    · rw [h3] at e; exact h2 e
    · rw [h3] at e; injection e with e; simp at e; omega
  have hv54 : ∀ g, wr.heap.size ≤ g → g < w4.heap.size → v5.ownBlock ≠ some g := fun g h1 h2 e => by
    rcases hat with h3 | h3
    · rw [h3] at e; have := (hlt _ e).2; omega
    · rw [h3] at e; injection e with e; simp at e; omega
  have hsz5 : w4.heap.size + 1 ≤ w5.heap.size := by simpa using hs5
  refine ⟨?_, ?_⟩
  · rw [List.map_append, h.key]; rfl
  · refine RowB.push (w := wr) (N := Apart n0 v wr) h.row ?_ ⟨hv, hi, ?_⟩ (fun g hg => hK g hg.2.1 hg.2.2) (fun g hg => ⟨hg.1, by have := hg.2.1; omega, hv5 g hg.2.1 hg.2.2⟩)
    · rw [h.len, hk]; exact hown
    · refine (hO.keep fun g hg => ?_).wide fun g hg => ⟨by omega, by omega, hv54 g hg.1 hg.2⟩
      exact hK4 g hg.2 fun e => by have := (hlt _ e).2; omega

/-- A copy, put behind the row. -/
theorem CmpI.nextC {n0 n cv B0 : Nat} {wr w4 w5 : World} {L : List Bd} {As : Option Addr} {v5 : Value} {l : List Bi} {x : Bd} {A4 : Option Addr} {c4 : Nat} {l4 : List Ti} {o : Obj} (h : CmpI n0 wr L (.slice As n cv) l) (hk : L.length = n) (hn : n0 ≤ wr.heap.size) (hv : I64 x.v) (hi : I64 x.t.fn) (hua : x.t.args.length ≤ 9223372036854775807)
    (hl4 : l4.map Ti.t = x.t.args) (hB : wr.heap.size ≤ B0) (hR : RowT w4 B0 (.slice A4 x.t.args.length c4) l4 (Apart B0 (.slice A4 x.t.args.length c4) w4)) (hb4 : Below wr.heap.size wr w4) (hown : w5.ownsRow n0 51 3 v5 (n + 1) (l.flatMap Bi.cells ++ [.int .i64 x.v, .int .i64 x.t.fn, .slice A4 x.t.args.length c4]))
    (hgr : (w4.alloc o).grownBy w5 (Value.slice As n cv).ownBlock) (hat : v5.ownBlock = (Value.slice As n cv).ownBlock ∨ v5.ownBlock = some (w4.alloc o).heap.size) : (∃ q, CmpI n0 w5 (L ++ [x]) v5 q) ∧ Below n0 wr w5 := by
  have hl4l : l4.length = x.t.args.length := by rw [← hl4, List.length_map]
  obtain ⟨A', c', e, hA4⟩ := hR.argsN (M := fun g => wr.heap.size ≤ g ∧ g < w4.heap.size) (by rw [hl4l]; exact hua) (fun g e => by have := row_lt hR.row g e; omega) (fun g e => by have := e.1; have := e.2.1; omega)
  rw [hl4] at hA4
  injection e with e1 _ _
  subst e1
  have hrl := row_lt h.row.row
  exact ⟨⟨_, h.nextN hk hn hv hi hA4 hb4 hown hgr hat⟩, ((hb4.mono hn).alloc (by have := hb4.size; omega) _).grown hgr (by have := hb4.size; simp; omega) (fun g e => (hrl g e).1)⟩

/-- How far the sorting has come. -/
structure RSubI (l : List Bi) (k : Nat) (L : List Bd) : Prop where
  srt : L.Pairwise fun a b => a.v ≤ b.v
  perm : L.Perm (((bdsM l).take k).filter notSelf)

theorem RSubI.start (l : List Bi) : RSubI l 0 [] := ⟨.nil, by simp⟩

theorem RSubI.skip {l : List Bi} {k : Nat} {L : List Bd} {y : Bi} (h : RSubI l k L) (hy : l[k]? = some y) (hs : notSelf y.bd = false) : RSubI l (k + 1) L := by
  refine ⟨h.srt, ?_⟩
  have : (bdsM l)[k]? = some y.bd := by unfold bdsM; rw [List.getElem?_map, hy]; rfl
  rw [List.take_add_one, this, List.filter_append]
  simpa [hs] using h.perm

theorem RSubI.put {l : List Bi} {k j : Nat} {L : List Bd} {y : Bi} (h : RSubI l k L) (hy : l[k]? = some y) (hs : notSelf y.bd = true) (hj : j ≤ L.length) (hgt : ∀ z ∈ L.drop j, y.v < z.v) (hle : ∀ z, j ≠ 0 → L[j - 1]? = some z → z.v ≤ y.v) : RSubI l (k + 1) (insAt j L y.bd) := by
  obtain ⟨h1, h2⟩ := insAt_sorted (x := y.bd) hj h.srt hgt hle
  refine ⟨h1, h2.trans ?_⟩
  have : (bdsM l)[k]? = some y.bd := by unfold bdsM; rw [List.getElem?_map, hy]; rfl
  rw [List.take_add_one, this, List.filter_append]
  have e : (some y.bd).toList.filter notSelf = [y.bd] := by simp [hs]
  rw [e]
  exact h.perm.append_right _

theorem RSubI.len {l : List Bi} {k : Nat} {L : List Bd} (h : RSubI l k L) : L.length ≤ k := by
  rw [h.perm.length_eq]
  refine Nat.le_trans (List.length_filter_le _ _) ?_
  rw [List.length_take]; omega

theorem insAt_map {α β : Type} (f : α → β) (j : Nat) (S : List α) (x : α) : (insAt j S x).map f = insAt j (S.map f) (f x) := by
  unfold insAt
  rw [List.map_append, List.map_cons, List.map_take, List.map_drop]

/-- While the new one sinks. -/
structure RSnkI (w wx : World) (q0 : List Bi) (x : Bi) (j : Nat) (v : Value) : Prop where
  row : RowB wx w.heap.size v (insAt j q0 x) (Apart w.heap.size v wx)
  le : j ≤ q0.length
  gt : ∀ z ∈ q0.drop j, x.v < z.v

theorem RSnkI.on {w wx w' : World} {q0 : List Bi} {x : Bi} {j : Nat} {v : Value} (h : RSnkI w wx q0 x j v) (hb : Below wx.heap.size wx w') : RSnkI w w' q0 x j v :=
  ⟨(h.row.keep (fun g e => hb.block g (row_lt h.row.row g e).2) (fun g e => hb.block g e.2.1)).wide fun _ e => ⟨e.1, Nat.lt_of_lt_of_le e.2.1 hb.size, e.2.2⟩, h.le, h.gt⟩

theorem RSnkI.next {w wx : World} {q0 : List Bi} {x y : Bi} {m g n c : Nat} (h : RSnkI w wx q0 x (m + 1) (.slice (some ⟨g, 0, none⟩) n c)) (hy : q0[m]? = some y) (hlt : x.v < y.v) : RSnkI w (setB (setB wx g (m + 1) y) g m x) q0 x m (.slice (some ⟨g, 0, none⟩) n c) := by
  have hml := (List.getElem?_eq_some_iff.1 hy).1
  have hne : ∀ k, Apart w.heap.size (.slice (some ⟨g, 0, none⟩) n c) wx k → k ≠ g := fun k e e2 => e.2.2 (by rw [e2]; rfl)
  have hx := h.row.fx x (List.mem_of_getElem? (insAt_at h.le))
  have hyf := h.row.fx y (List.mem_of_getElem? ((insAt_prev (x := x) hml).trans hy))
  have h1 := h.row.set (i := m + 1) (x := y) (by rw [insAt_len]; omega) hne hyf
  have hoth : ∀ k, k ≠ g → (setB wx g (m + 1) y).heap[k]? = wx.heap[k]? := fun k e => (heap_setCell_other _ _ _ _ e).trans ((heap_setCell_other _ _ _ _ e).trans (heap_setCell_other _ _ _ _ e))
  have h2 := h1.set (i := m) (x := x) (by rw [List.length_set, insAt_len]; omega) hne (hx.keep fun k e => hoth k (hne k e))
  rw [insAt_swap hy] at h2
  refine ⟨h2.wide fun k e => ⟨e.1, by have := e.2.1; unfold setB; simpa using this, e.2.2⟩, by omega, fun z hz => ?_⟩
  have hz0 : q0.drop m = y :: q0.drop (m + 1) := by
    have := List.drop_eq_getElem_cons hml
    rw [this]
    have he := (List.getElem?_eq_some_iff.1 hy).2
    rw [he]
  rw [hz0] at hz
  rcases List.mem_cons.1 hz with rfl | hz
  · exact hlt
  · exact h.gt z hz

theorem RSnkI.fin {w wx : World} {q0 l : List Bi} {x y : Bi} {j k : Nat} {v : Value} {L : List Bd} (h : RSnkI w wx q0 x j v) (hS : RSubI l k L) (hq : q0.map Bi.bd = L) (hx : x.bd = y.bd) (hy : l[k]? = some y) (hs : notSelf y.bd = true) (hle : ∀ z, j ≠ 0 → q0[j - 1]? = some z → z.v ≤ x.v) :
    RSubI l (k + 1) (insAt j L y.bd) ∧ ∃ q, CmpI w.heap.size wx (insAt j L y.bd) v q := by
  have hv : y.v = x.v := (congrArg Bd.v hx).symm
  subst hq
  refine ⟨hS.put hy hs (by rw [List.length_map]; exact h.le) (fun z hz => ?_) (fun z hj hz => ?_), _, ?_, h.row⟩
  · rw [← List.map_drop] at hz
    obtain ⟨z', hz', rfl⟩ := List.mem_map.1 hz
    rw [hv]; exact h.gt z' hz'
  · rw [List.getElem?_map] at hz
    obtain ⟨z', hz', rfl⟩ := Option.map_eq_some_iff.1 hz
    rw [hv]; exact hle z' hj hz'
  · rw [insAt_map, hx]

theorem snk_start {w wx : World} {q : List Bi} {L : List Bd} {x : Bd} {v : Value} (h : CmpI w.heap.size wx (L ++ [x]) v q) : ∃ q0 x' g c, q0.map Bi.bd = L ∧ x'.bd = x ∧ v = .slice (some ⟨g, 0, none⟩) (q0.length + 1) c ∧ RSnkI w wx q0 x' q0.length v := by
  obtain ⟨q0, q1, rfl, h0, h1⟩ := List.map_eq_append_iff.1 h.key
  obtain ⟨x', rfl, hx⟩ := List.map_eq_singleton_iff.1 h1
  have hrow := h.row.row
  rw [List.length_append] at hrow
  obtain ⟨g, c, hv⟩ := ownsRow_succ (show wx.ownsRow w.heap.size 51 3 v (q0.length + 1) _ from hrow)
  refine ⟨q0, x', g, c, h0, hx, hv, ?_, Nat.le_refl _, by simp⟩
  rw [insAt_end]; exact h.row

end Go.Proofs.Ytglfjmbclimeeaa

/- match: the document's own matcher: Subst, walked. -/

namespace Go.Proofs.Ytglfjmbclimeeaa

open Go.RowKit Go.Shelf
set_option maxRecDepth 100000

set_option maxHeartbeats 8000000 in
theorem rsubst_any (zb : Nat) (S : Nat → Prop) (v : Value) (l : List Bi) (w : World) (hM : RefW w S zb v l) (hok : MOk (bdsM l)) (hl : l.length ≤ 1099511627776) (hsm : ∀ x ∈ l, x.t.size ≤ 4398046511104) :
    Calls Try.prog 19 #[.pointer (some ⟨zb, 0, none⟩)] w fun e w' => ∃ A c, e = .returned (.slice A (substM (bdsM l)).length c) ∧ Binds w' (· < w'.heap.size) A (substM (bdsM l)) ∧ Below w.heap.size w w' := by
  obtain ⟨i0, hi, hz0, hz1, hz2⟩ := info_parts info_bind
  obtain ⟨Av, cv, rfl⟩ := hM.slice
  have hzl := hM.lt zb (hM.own zb (.inl rfl))
  have HZ := Lib.hid (fun (w1 : World) (h : Below w.heap.size w w1) => (cells_n (hM.on h).box 0 _ rfl : w1.cell? ⟨zb, 0, none⟩ = some (.slice Av l.length cv)))
  have hg : ∀ (k : Nat) (y : Bi), l[k]? = some y → ∃ g, Av = some ⟨g, 0, none⟩ ∧ g < w.heap.size ∧ w.cell? ⟨g, k * 3, none⟩ = some (.int .i64 y.v) ∧ w.cell? ⟨g, k * 3 + 1, none⟩ = some (.int .i64 y.t.fn) ∧ w.cell? ⟨g, k * 3 + 2, none⟩ = some (.slice y.A y.t.args.length y.c) := fun k y hy => by
    have hlt := (List.getElem?_eq_some_iff.1 hy).1
    rcases hM.row.row.2 with ⟨_, h0⟩ | ⟨g, cap, cur, e, hb, hg, _⟩
    · omega
    · injection e with e1 e2 e3
      subst e1
      obtain ⟨a, b, d⟩ := hM.row.get hy
      exact ⟨g, rfl, (Array.getElem?_eq_some_iff.1 hg).1, a, b, d⟩
  have Hg := Lib.hid hg
  have HM := Lib.hid hM
  have Hok := Lib.hid hok
  have Hsm := Lib.hid hsm
  have HS0 := Lib.hid (RSubI.start l)
  have HR0 : Hid (∃ q, CmpI w.heap.size w [] (.slice none 0 0) q) := Lib.hid ⟨[], by simp, RowB.nil_ _ _ _⟩
  clear hM hok hsm hg
  go_enter Try.func19, Try.ntmps19
  go_wp2
  go_loopw [3, 4] (fun s i wr => ∃ (k : Nat) (L : List Bd), k ≤ l.length ∧ i = .int .i64 (k : Int) ∧ Below w.heap.size w wr ∧ Hid (RSubI l k L) ∧ Hid (∃ q, CmpI w.heap.size wr L s q)) (fun _ i _ => l.length - (intOf i).toNat)
  case atStart => exact ⟨0, [], Nat.zero_le _, rfl, Below.refl _ _, HS0, HR0⟩
  case round =>
    obtain ⟨k, L, hk, rfl, hBr, HS, HR⟩ := hrel
    have c0 := HZ.out wr hBr
    by_cases hlt : k < l.length
    · obtain ⟨y, hy⟩ : ∃ y, l[k]? = some y := ⟨_, List.getElem?_eq_getElem hlt⟩
      obtain ⟨g, rfl, hgl, e0, e1, e2⟩ := Hg.out k y hy
      have hfx := HM.out.row.fx y (List.mem_of_getElem? hy)
      have hy64 := hfx.iv
      have hit := hfx.it
      have hyb : y.bd ∈ bdsM l := List.mem_map.2 ⟨y, List.mem_of_getElem? hy, rfl⟩
      have hself := self_iff (x := y.bd) (Hok.out.plain _ hyb) (Hok.out.ge _ hyb)
      have j0 : ∀ x' : Later wr.heap.size wr, x'.w.cell? ⟨zb, 0, none⟩ = some (.slice (some ⟨g, 0, none⟩) l.length cv) := fun x' => HZ.out _ (hBr.trans (x'.h.mono hBr.size))
      have j1 : ∀ x' : Later wr.heap.size wr, x'.w.cell? ⟨g, k * 3, none⟩ = some (.int .i64 y.v) := fun x' => cell_on (hBr.trans (x'.h.mono hBr.size)) hgl e0
      have j2 : ∀ x' : Later wr.heap.size wr, x'.w.cell? ⟨g, k * 3 + 1, none⟩ = some (.int .i64 y.t.fn) := fun x' => cell_on (hBr.trans (x'.h.mono hBr.size)) hgl e1
      have j3 : ∀ x' : Later wr.heap.size wr, x'.w.cell? ⟨g, k * 3 + 1 + 1, none⟩ = some (.slice y.A y.t.args.length y.c) := fun x' => cell_on (hBr.trans (x'.h.mono hBr.size)) hgl e2
      have hwr : IntKind.i64.wrap (-1 - y.v) = -1 - y.v := by rw [IntKind.wrap_i64]; have := hy64.1; have := hy64.2; omega
      have Hy := Lib.hid hy
      have Hfx := Lib.hid hfx
      have hkk : (k : Int) < (l.length : Int) := by omega
      have hk0 : (0 : Int) ≤ (k : Int) := by omega
      have hkn : (k : Int).toNat = k := by omega
      have HE := Lib.hid (fun (w1 : World) (h : Below w.heap.size w w1) => (⟨cell_on h hgl e0, cell_on h hgl e1, cell_on h hgl e2⟩ : w1.cell? ⟨g, k * 3, none⟩ = some (.int .i64 y.v) ∧ w1.cell? ⟨g, k * 3 + 1, none⟩ = some (.int .i64 y.t.fn) ∧ w1.cell? ⟨g, k * 3 + 1 + 1, none⟩ = some (.slice y.A y.t.args.length y.c)))
      clear hy hfx e0 e1 e2
      by_cases hs : y.t.fn = -1 - y.v
      · have hsb : notSelf y.bd = false := by unfold notSelf; rw [decide_eq_true (hself.2 hs)]; rfl
        have g1 : ((y.t.fn : Int) == -1 - y.v) = true := by simp [hs]
        have hal : y.t.args.length = 0 := (hself.2 hs).2
        have g2 : ((y.t.args.length : Int) == 0) = true := by simp [hal]
        have HS2 := Lib.hid (HS.out.skip Hy.out hsb)
        clear hs hsb hself hal
        go_upto_region 5 with fail
        refine wp_region_later wr.heap.size wr (by kernel_rfl) (by kernel_rfl) (bl_drewN (Below.refl _ _) 1) ?_
        repeat (go_big_quiet_step (fail))
        refine wpQuiet_nil ?_
        rintro _ ⟨z, rfl⟩
        have hBz := hBr.trans (z.h.mono hBr.size)
        have HR2 : Hid (∃ q, CmpI w.heap.size z.w L u3 q) := Lib.hid (by
          obtain ⟨q, hq⟩ := HR.out
          exact ⟨q, hq.on z.h⟩)
        go_wp2
        go_roundw
        case rel => exact ⟨k + 1, L, by omega, by go_num, hBz, HS2, HR2⟩
        case measure => simp [intOf]; omega
      · have hsb := Lib.hid (show notSelf y.bd = true by unfold notSelf; rw [decide_eq_false (fun h => hs (hself.1 h))]; rfl)
        have g1 : ((y.t.fn : Int) == -1 - y.v) = false := by simp [hs]
        clear hs hself
        go_upto_region 5 with fail
        refine wp_region_later wr.heap.size wr (by kernel_rfl) (by kernel_rfl) (bl_drewN (Below.refl _ _) 1) ?_
        repeat (go_big_quiet_step (fail))
        refine wpQuiet_nil ?_
        rintro _ ⟨z, rfl⟩
        have hBz := hBr.trans (z.h.mono hBr.size)
        obtain ⟨q, hq⟩ := HR.out
        have hqz := hq.on z.h
        have hql := hqz.len
        have hLl := HS.out.len
        have hrow := hqz.row.row
        obtain ⟨As, cs, hsv⟩ := row_slice hrow
        obtain ⟨n, hn⟩ : ∃ n, q.length = n := ⟨_, rfl⟩
        rw [hn] at hsv hrow
        subst hsv
        have hnn : n ≤ 1099511627776 := by omega
        have hrl := row_lt hrow
        have Hrow := Lib.hid hrow
        have Hqz := Lib.hid hqz
        have hLn := Lib.hid (show L.length = n by rw [← hn]; exact hql.symm)
        have hBd : Below z.w.heap.size z.w z.w.drew := bl_drewN (Below.refl _ _) 1
        have hBzd := hBz.trans (hBd.mono hBz.size)
        have hsy := Hsm.out y (List.mem_of_getElem? Hy.out)
        have hya : ∀ w1, Below w.heap.size w w1 → Args w1 w1.heap.size y.A y.t.args := fun w1 h => (Hfx.out.args.keep fun g e => h.block g (HM.out.lt g e.1)).args fun g e => Nat.lt_of_lt_of_le (HM.out.lt g e.1) h.size
        have hua0 : y.t.args.length ≤ 9223372036854775807 := (hya _ hBz).len
        have HC := Lib.hid (refCopy_any y.t hsy y.A y.c z.w.drew hit (hya _ hBzd))
        have p0 := HZ.out _ hBzd
        obtain ⟨p1, p2, p3⟩ := HE.out _ hBzd
        have HSS := Lib.hid (fun (w1 : World) (h : Below z.w.heap.size z.w w1) => (⟨HZ.out _ (hBz.trans (h.mono hBz.size)), HE.out _ (hBz.trans (h.mono hBz.size))⟩ : w1.cell? ⟨zb, 0, none⟩ = some (.slice (some ⟨g, 0, none⟩) l.length cv) ∧ w1.cell? ⟨g, k * 3, none⟩ = some (.int .i64 y.v) ∧ w1.cell? ⟨g, k * 3 + 1, none⟩ = some (.int .i64 y.t.fn) ∧ w1.cell? ⟨g, k * 3 + 1 + 1, none⟩ = some (.slice y.A y.t.args.length y.c)))
        clear hq hqz hql hrow hn HR hsy hya j0 j1 j2 j3 g1
        go_upto_region 6 with fail
        go_cut [3] from 7 to 106 (fun s3 wx => (∃ q, CmpI w.heap.size wx (L ++ [y.bd]) s3 q) ∧ Below w.heap.size w wx)
        case first =>
          go_region_law
            (first
              | (go_simp
                 go_at_call 43
                 with_reducible refine HC.out.mono ?_
                 rintro e w4 ⟨v4, l4, rfl, hl4, hR4, hb4⟩
                 have hB4 : Below z.w.heap.size z.w w4 := hBd.trans (hb4.mono hBd.size)
                 obtain ⟨A4, c4, hv4⟩ := row_own hR4.row
                 have hl4l : l4.length = y.t.args.length := by rw [← hl4, List.length_map]
                 rw [hl4l] at hv4
                 have HR4 := Lib.hid hR4
                 have Hl4 := Lib.hid hl4
                 obtain ⟨k0, k1, k2, k3⟩ := HSS.out _ hB4
                 subst hv4
                 clear hR4 hl4
                 dsimp only)
              | (refine step_append_at rfl (.tmp 48) (.tmp 67) 41 rfl w.heap.size 51 i0 (.agg #[.int .i64 0, .int .i64 0, .slice none 0 0]) 3 40 Try.underlying41 hi hz0 hz1 hz2 rfl (by decide) (.slice As n cs) n _ (by simp [Act.eval]) (row_keep Hrow.out fun g e => (Below.heap_alloc w4 _ g (Nat.lt_of_lt_of_le (hrl g e).2 hB4.size)).trans (hB4.block g (hrl g e).2)) ⟨w4.heap.size, 0, none⟩ 1 1 [.int .i64 y.v, .int .i64 y.t.fn, .slice A4 y.t.args.length c4] (by simp [Act.eval]) rfl (cells_new_bind _ _ _ _ _) (by simp [Value.oneCell']) (by unfold maxLen; omega) (by omega) (by have := hB4.size; have := hBz.size; simp; omega) ?_
                 intro v5 w5 hown5 hgr5 hat5
                 have Hown5 := Lib.hid hown5
                 have Hgr5 := Lib.hid hgr5
                 have Hat5 := Lib.hid hat5
                 clear hown5 hgr5 hat5)
              | fail)
          all_goals
            have hfin := Hqz.out.nextC (x := y.bd) hLn.out hBz.size hy64 hit hua0 Hl4.out hBd.size HR4.out hB4 Hown5.out Hgr5.out Hat5.out
            go_wp2_with fail
            go_meet
            exact ⟨hfin.1, hBz.trans hfin.2⟩
        case rest =>
          obtain ⟨⟨q, hq⟩, hBc⟩ := hcut
          obtain ⟨q0, x, g6, c6, hq0, hxy, hv, hst⟩ := snk_start hq
          subst hv
          have hx64 := (hst.row.fx x (List.mem_of_getElem? (insAt_at hst.le))).iv
          have hxt := (hst.row.fx x (List.mem_of_getElem? (insAt_at hst.le))).it
          have Hst := Lib.hid hst
          have Hq0 := Lib.hid hq0
          have Hxy := Lib.hid hxy
          have hql : q0.length ≤ 1099511627776 := by have := congrArg List.length hq0; rw [List.length_map] at this; have := HS.out.len; omega
          have hw0 : IntKind.i64.wrap (((q0.length + 1 : Nat) : Int) - 1) = (q0.length : Int) := by rw [IntKind.wrap_i64]; omega
          clear hq hq0 hxy hst Hqz Hrow HC HSS p0 p1 p2 p3 hrl hLl
          go_wp2
          clear hw0
          go_loopw [5] (fun jv wx => ∃ j : Nat, jv = .int .i64 (j : Int) ∧ Below w.heap.size w wx ∧ Hid (RSnkI w wx q0 x j (.slice (some ⟨g6, 0, none⟩) (q0.length + 1) c6))) (fun jv _ => (intOf jv).toNat)
          case atStart => exact ⟨q0.length, by go_num, hBc, Hst⟩
          case round =>
            obtain ⟨j, rfl, hBi, HSi⟩ := hrel
            have hjl := HSi.out.le
            rcases j with _ | m
            · have hf0 : decide (((0 : Nat) : Int) > 0) = false := by decide
              go_upto_region 8 with fail
              refine wp_region_later wr.heap.size wr (by kernel_rfl) (by kernel_rfl) (bl_drewN (Below.refl _ _) 1) ?_
              repeat (go_big_quiet_step (fail))
              refine wpQuiet_nil ?_
              rintro _ ⟨zz, rfl⟩
              have hBz2 := hBi.trans (zz.h.mono hBi.size)
              obtain ⟨hfS, hfR⟩ := (HSi.out.on zz.h).fin HS.out Hq0.out Hxy.out Hy.out hsb.out (fun z hz _ => absurd rfl hz)
              have HfS := Lib.hid hfS
              have HfR := Lib.hid hfR
              clear hfS hfR
              go_wp2
              go_roundw
              case rel => exact ⟨k + 1, _, by omega, by go_num, hBz2, HfS, HfR⟩
              case measure => simp [intOf]; omega
            · obtain ⟨y0, hy0⟩ : ∃ y0, q0[m]? = some y0 := ⟨_, List.getElem?_eq_getElem (by omega)⟩
              have hg6 : g6 < wr.heap.size := (row_lt HSi.out.row.row g6 rfl).2
              have hg6b := (row_lt HSi.out.row.row g6 rfl).1
              obtain ⟨a0, a1, a2⟩ := HSi.out.row.get (insAt_at (x := x) hjl)
              obtain ⟨b0, b1, b2⟩ := HSi.out.row.get ((insAt_prev (x := x) (by omega)).trans hy0)
              have ha0 : ∀ x' : Later wr.heap.size wr, x'.w.cell? ⟨g6, (m + 1) * 3, none⟩ = some (.int .i64 x.v) := fun x' => cell_on x'.h hg6 a0
              have hb0 : ∀ x' : Later wr.heap.size wr, x'.w.cell? ⟨g6, m * 3, none⟩ = some (.int .i64 y0.v) := fun x' => cell_on x'.h hg6 b0
              have f0 : IntKind.i64.wrap (((m + 1 : Nat) : Int) - 1) = (m : Int) := by rw [IntKind.wrap_i64]; omega
              have f1 : decide (((m + 1 : Nat) : Int) > 0) = true := decide_eq_true (by omega)
              have f2 : (m : Int) < ((q0.length + 1 : Nat) : Int) := by omega
              have f4 : (0 : Int) ≤ (m : Int) := by omega
              have f3 : (m : Int).toNat = m := by omega
              have f5 : ((m + 1 : Nat) : Int) < ((q0.length + 1 : Nat) : Int) := by omega
              have Hy0 := Lib.hid hy0
              clear hy0 a0 a1 a2 b0 b1 b2
              by_cases hlt2 : x.v < y0.v
              · have hd := decide_eq_true hlt2
                have hlt3 := Lib.hid hlt2
                clear hlt2
                go_upto_region 8 with fail
                refine wp_region_later wr.heap.size wr (by kernel_rfl) (by kernel_rfl) (bl_drewN (Below.refl _ _) 1) ?_
                repeat (go_big_quiet_step (fail))
                refine wpQuiet_nil ?_
                rintro _ ⟨zz, rfl⟩
                have hBz2 := hBi.trans (zz.h.mono hBi.size)
                have hRz := HSi.out.on zz.h
                obtain ⟨a0, a1, a2⟩ := hRz.row.get (insAt_at (x := x) hjl)
                have hzs : g6 < zz.w.heap.size := Nat.lt_of_lt_of_le hg6 zz.h.size
                obtain ⟨W, hW⟩ : ∃ W, zz.w.alloc (.cells #[.int .i64 x.v, .int .i64 x.t.fn, .slice x.A x.t.args.length x.c] 51) = W := ⟨_, rfl⟩
                have q0' := heap_alloc_new zz.w (.cells #[.int .i64 x.v, .int .i64 x.t.fn, .slice x.A x.t.args.length x.c] 51)
                have hBW : Below zz.w.heap.size zz.w W := by rw [← hW]; exact (Below.refl _ _).alloc (Nat.le_refl _) _
                rw [hW] at q0'
                have hRW := hRz.on hBW
                obtain ⟨x0, x1, x2, _, _, _⟩ := cells_three q0'
                have hne6 : g6 ≠ zz.w.heap.size := by omega
                obtain ⟨y1, y2, y3⟩ := hRW.row.get ((insAt_prev (x := x) (by omega)).trans Hy0.out)
                obtain ⟨v0, v1, v2⟩ := hRW.row.get (insAt_at (x := x) hjl)
                have s0 := RowB.frozen hRW.row ((m + 1) * 3)
                have s1 := RowB.frozen hRW.row ((m + 1) * 3 + 1)
                have s2 := RowB.frozen hRW.row ((m + 1) * 3 + 2)
                have t0 := RowB.frozen hRW.row (m * 3)
                have t1 := RowB.frozen hRW.row (m * 3 + 1)
                have t2 := RowB.frozen hRW.row (m * 3 + 2)
                have hnx := Lib.hid (hRW.next Hy0.out hlt3.out)
                have HW := Lib.hid hW
                clear hW hRz hRW q0' ha0 hb0
                go_upto_region 11 with fail
                rw [HW.out]
                clear a0 a1 a2
                have hBe := ((((((hBz2.trans (hBW.mono hBz2.size)).setCell (p := ⟨g6, (m + 1) * 3, none⟩) hg6b (.int .i64 y0.v)).setCell (p := ⟨g6, (m + 1) * 3 + 1, none⟩) hg6b (.int .i64 y0.t.fn)).setCell (p := ⟨g6, (m + 1) * 3 + 2, none⟩) hg6b (.slice y0.A y0.t.args.length y0.c)).setCell (p := ⟨g6, m * 3, none⟩) hg6b (.int .i64 x.v)).setCell (p := ⟨g6, m * 3 + 1, none⟩) hg6b (.int .i64 x.t.fn)).setCell (p := ⟨g6, m * 3 + 2, none⟩) hg6b (.slice x.A x.t.args.length x.c)
                go_wp2
                go_roundw
                case rel => exact ⟨m, by go_num, hBe, hnx⟩
                case measure => simp [intOf]
              · have hd := decide_eq_false hlt2
                have hle : ∀ z, m + 1 ≠ 0 → q0[m + 1 - 1]? = some z → z.v ≤ x.v := fun z _ hz => by
                  have : q0[m]? = some z := hz
                  rw [Hy0.out] at this
                  injection this with this
                  subst this; omega
                have Hle := Lib.hid hle
                clear hlt2 hle
                go_upto_region 8 with fail
                refine wp_region_later wr.heap.size wr (by kernel_rfl) (by kernel_rfl) (bl_drewN (Below.refl _ _) 1) ?_
                repeat (go_big_quiet_step (fail))
                refine wpQuiet_nil ?_
                rintro _ ⟨zz, rfl⟩
                have hBz2 := hBi.trans (zz.h.mono hBi.size)
                obtain ⟨hfS, hfR⟩ := (HSi.out.on zz.h).fin HS.out Hq0.out Hxy.out Hy.out hsb.out Hle.out
                have HfS := Lib.hid hfS
                have HfR := Lib.hid hfR
                clear hfS hfR
                go_wp2
                go_roundw
                case rel => exact ⟨k + 1, _, by omega, by go_num, hBz2, HfS, HfR⟩
                case measure => simp [intOf]; omega
    · obtain rfl : k = l.length := by omega
      obtain ⟨q, hq⟩ := HR.out
      have hLS : L = substM (bdsM l) := by
        have hp := HS.out.perm
        have e : (bdsM l).take l.length = bdsM l := by
          have : l.length = (bdsM l).length := by unfold bdsM; rw [List.length_map]
          rw [this, List.take_length]
        rw [e] at hp
        exact substM_eq Hok.out HS.out.srt hp
      have hql := hq.len
      have hLl := HS.out.len
      obtain ⟨A, c, hv, hBd⟩ := hq.row.binds (M := (· < wr.heap.size)) (by omega) (fun g e => (row_lt hq.row.row g e).2) (fun g e => e.2.1)
      rw [hq.key] at hBd
      rw [hql] at hv
      subst hv
      rw [hLS] at hBd ⊢
      have HBd := Lib.hid hBd
      clear HR hq hql hBd hLS
      go_wp2
      go_ret
      exact ⟨A, c, rfl, HBd.out, hBr⟩

end Go.Proofs.Ytglfjmbclimeeaa

/- match: the document's own Match, Variant, walked. -/

namespace Go.Proofs.Ytglfjmbclimeeaa

open Go.RowKit Go.Shelf
set_option maxRecDepth 100000

/-- Term of a new matcher of the document's. -/
theorem rTerm_new (p u : Tm) (A B : Option Addr) (c d : Nat) (W : World) (hnum : p.size ≤ 1099511627776) (husz : u.size ≤ 4398046511104) (hp64 : I64 p.fn) (hu64 : I64 u.fn) (hA : Args W W.heap.size A p.args) (hB : Args W W.heap.size B u.args) :
    Calls Try.prog 10 #[.pointer (some ⟨W.heap.size, 0, none⟩), .agg #[.int .i64 p.fn, .slice A p.args.length c], .agg #[.int .i64 u.fn, .slice B u.args.length d]] (W.alloc (.cells #[.slice none 0 0] 28)) fun e w' => e = .returned (.bool (matB p u)) ∧ Below W.heap.size W w' ∧ ∃ S v' l', RefW w' S W.heap.size v' l' ∧ (∀ g, S g → W.heap.size ≤ g) ∧ bdsM l' = trmM [] p u := by
  have hM := RefW.new_ W
  have hb := (Below.refl W.heap.size W).alloc (Nat.le_refl _) (.cells #[.slice none 0 0] 28)
  have hN : ∀ g, g < W.heap.size → g < (W.alloc (.cells #[.slice none 0 0] 28)).heap.size ∧ ¬ OwnZ W.heap.size (.slice none 0 0) g := fun g e => ⟨by simp; omega, fun e2 => by
    have := hM.own g e2
    have e3 : g = W.heap.size := this
    omega⟩
  refine (rTerm_any p u A B c d W.heap.size _ (· < W.heap.size) (.slice none 0 0) [] _ hM .nil_ hN (by simpa using hnum) husz hp64 hu64 ((hA.toN).keep fun g e => hb.block g e) ((hB.toN).keep fun g e => hb.block g e)).mono ?_
  rintro e w' ⟨v', l', he, hl, hs⟩
  refine ⟨he, hb.trans (Keeps.below hs.k.k fun g e => ⟨Nat.lt_of_lt_of_le e hb.size, fun e2 => (hN g e).2 e2⟩), _, v', l', hs.m, fun g e => ?_, hl⟩
  rcases e with e | e
  · have e3 : g = W.heap.size := e
    omega
  · have := e.1; simp at this; omega

set_option maxHeartbeats 2000000 in
theorem rmatch_any (p u : Tm) (A B : Option Addr) (c d : Nat) (w : World) (hnum : p.size ≤ 1099511627776) (husz : u.size ≤ 4398046511104) (hp64 : I64 p.fn) (hu64 : I64 u.fn) (hA : Args w w.heap.size A p.args) (hB : Args w w.heap.size B u.args) :
    Calls Try.prog 22 #[.agg #[.int .i64 p.fn, .slice A p.args.length c], .agg #[.int .i64 u.fn, .slice B u.args.length d]] w (MchPost p u w) := by
  obtain ⟨W, hW⟩ : ∃ W, (w.alloc (.cells #[.int .i64 p.fn, .slice A p.args.length c] 31)).alloc (.cells #[.int .i64 u.fn, .slice B u.args.length d] 31) = W := ⟨_, rfl⟩
  obtain ⟨hBW, hWz, q0, q1⟩ := box2 hW
  have HT := Lib.hid (rTerm_new p u A B c d W hnum husz hp64 hu64 (hA.on hBW) (hB.on hBW))
  have hX := (fun (w1 : World) (h : Below W.heap.size W w1) => (⟨(cells_two ((h.block _ (by omega)).trans q0)).1, (cells_two ((h.block _ (by omega)).trans q0)).2.1, (cells_two ((h.block _ (by omega)).trans q1)).1, (cells_two ((h.block _ (by omega)).trans q1)).2.1⟩ : w1.cell? ⟨w.heap.size, 0, none⟩ = some (.int .i64 p.fn) ∧ w1.cell? ⟨w.heap.size, 1, none⟩ = some (.slice A p.args.length c) ∧ w1.cell? ⟨w.heap.size + 1, 0, none⟩ = some (.int .i64 u.fn) ∧ w1.cell? ⟨w.heap.size + 1, 1, none⟩ = some (.slice B u.args.length d)))
  obtain ⟨x0, x1, x2, x3⟩ := hX W (Below.refl _ _)
  have hWl : w.heap.size < W.heap.size := by omega
  have hWl2 : w.heap.size + 1 < W.heap.size := by omega
  have HW := Lib.hid hW
  clear hW q0 q1 hA hB hX hWz
  rcases hr : wkT p [] u with _ | M
  · have hB0 := Lib.hid (show matB p u = false by unfold matB; rw [hr]; rfl)
    have Hr := Lib.hid hr
    clear hr
    go_enter Try.func22, Try.ntmps22
    go_upto_region 1 with fail
    rw [HW.out]
    go_wp2_with (first
      | (go_at_call 10; with_reducible refine HT.out.mono ?_; go_must (rintro e w2 ⟨rfl, hb2, _⟩; rw [hB0.out]))
      | fail)
    exact bodyPost_ret (v := .tuple #[.slice none 0 0, .bool false]) (by simp [results, Try.results22, go_sem]) rfl ⟨hBW.trans (hb2.mono hBW.size), (fun M h => (by rw [Hr.out] at h; cases h)), fun _ => rfl⟩
  · have hB0 := Lib.hid (show matB p u = true by unfold matB; rw [hr]; rfl)
    have Hr := Lib.hid hr
    have hM0 := Lib.hid (show trmM [] p u = M by unfold trmM; rw [hr]; rfl)
    have hMk := Lib.hid ((wk_mt p [] u .nil_).ext M hr).1
    have hMl : M.length ≤ 1099511627776 := by
      have := ((wk_mt p [] u .nil_).ext M hr).2.2
      simp at this; omega
    have HMs := Lib.hid (fun x (hx : x ∈ M) => (show x.t.size ≤ 4398046511104 from by
      rcases wk_sz p [] u M hr x hx with h | h
      · simp at h
      · omega))
    clear hr
    go_enter Try.func22, Try.ntmps22
    go_upto_region 1 with fail
    rw [HW.out]
    go_wp2_with (first
      | (go_at_call 10; with_reducible refine HT.out.mono ?_; go_must (rintro e w2 ⟨rfl, hb2, S2, v2, l2, hM2, hS2, hl2⟩; rw [hB0.out]; rw [hM0.out] at hl2; have hl2l := congrArg List.length hl2; unfold bdsM at hl2l; rw [List.length_map] at hl2l; have HSb := Lib.hid (rsubst_any W.heap.size S2 v2 l2 w2 hM2 (by rw [hl2]; exact hMk.out) (by rw [hl2l]; exact hMl) (bds_size (fun y hy => HMs.out y (by rw [← hl2]; exact hy)))); rw [hl2] at HSb; clear hM2 hl2 hl2l hS2))
      | (go_at_call 19; with_reducible refine HSb.out.mono ?_; go_must (rintro e w3 ⟨A3, c3, rfl, hBd3, hb3⟩))
      | fail)
    refine bodyPost_ret (v := .tuple #[.slice A3 (substM M).length c3, .bool true]) (by simp [results, Try.results22, go_sem]) rfl ⟨hBW.trans ((hb2.trans (hb3.mono hb2.size)).mono hBW.size), fun M' h => ?_, fun h => by rw [Hr.out] at h; cases h⟩
    rw [Hr.out] at h
    injection h with h
    subst h
    exact ⟨A3, c3, rfl, hBd3⟩

/-- What Match tells, as the law wants it. -/
theorem match_has {f : Nat} {p t : Tm} {v1 v2 : Value} {w : World} (h : Calls Try.prog f #[v1, v2] w (MchPost p t w)) : Calls Try.prog f #[v1, v2] w fun e w' => ∃ A c, e = .returned (.tuple #[.slice A (substM ((wkT p [] t).getD [])).length c, .bool (matB p t)]) ∧ Binds w' (· < w'.heap.size) A (substM ((wkT p [] t).getD [])) ∧ Below w.heap.size w w' := by
  rcases hr : wkT p [] t with _ | M
  · have hm : matB p t = false := by unfold matB; rw [hr]; rfl
    have hs : substM ((none : Option (List Bd)).getD []) = [] := by
      show substM [] = []
      exact List.eq_nil_of_length_eq_zero (Nat.le_zero.1 (substM_len []))
    rw [hm, hs]
    exact h.mono fun _ _ ⟨hb, _, h2⟩ => ⟨none, 0, h2 hr, Binds.nil_ _ _ _, hb⟩
  · have hm : matB p t = true := by unfold matB; rw [hr]; rfl
    rw [hm]
    exact h.mono fun _ _ ⟨hb, h1, _⟩ => by
      obtain ⟨A, c, he, hB⟩ := h1 M hr
      exact ⟨A, c, he, hB, hb⟩

set_option maxHeartbeats 2000000 in
theorem rvariant_any (p u : Tm) (A B : Option Addr) (c d : Nat) (w : World) (hp : p.size ≤ 1099511627776) (hu : u.size ≤ 1099511627776) (hp64 : I64 p.fn) (hu64 : I64 u.fn) (hA : Args w w.heap.size A p.args) (hB : Args w w.heap.size B u.args) :
    Calls Try.prog 24 #[.agg #[.int .i64 p.fn, .slice A p.args.length c], .agg #[.int .i64 u.fn, .slice B u.args.length d]] w fun e w' => e = .returned (.bool (varB p u)) ∧ Below w.heap.size w w' := by
  obtain ⟨W, hW⟩ : ∃ W, (w.alloc (.cells #[.int .i64 p.fn, .slice A p.args.length c] 31)).alloc (.cells #[.int .i64 u.fn, .slice B u.args.length d] 31) = W := ⟨_, rfl⟩
  obtain ⟨hBW, hWz, q0, q1⟩ := box2 hW
  have HX := Lib.hid (fun (w1 : World) (h : Below W.heap.size W w1) => (⟨(cells_two ((h.block _ (by omega)).trans q0)).1, (cells_two ((h.block _ (by omega)).trans q0)).2.1, (cells_two ((h.block _ (by omega)).trans q1)).1, (cells_two ((h.block _ (by omega)).trans q1)).2.1⟩ : w1.cell? ⟨w.heap.size, 0, none⟩ = some (.int .i64 p.fn) ∧ w1.cell? ⟨w.heap.size, 1, none⟩ = some (.slice A p.args.length c) ∧ w1.cell? ⟨w.heap.size + 1, 0, none⟩ = some (.int .i64 u.fn) ∧ w1.cell? ⟨w.heap.size + 1, 1, none⟩ = some (.slice B u.args.length d)))
  have H1 := Lib.hid (match_has (rmatch_any p u A B c d W hp (by omega) hp64 hu64 (hA.on hBW) (hB.on hBW)))
  have H2 := Lib.hid (fun (w1 : World) (h : Below W.heap.size W w1) => match_has (rmatch_any u p B A d c w1 hu (by omega) hu64 hp64 ((hB.on hBW).on h) ((hA.on hBW).on h)))
  obtain ⟨x0, x1, x2, x3⟩ := HX.out W (Below.refl _ _)
  obtain ⟨r1, h1⟩ : ∃ r, matB p u = r := ⟨_, rfl⟩
  obtain ⟨r2, h2⟩ : ∃ r, matB u p = r := ⟨_, rfl⟩
  rw [h1] at H1
  rw [h2] at H2
  have Hres := Lib.hid (show varB p u = (r1 && r2) by unfold varB; rw [h1, h2])
  have HW := Lib.hid hW
  clear hW q0 q1 hA hB h1 h2 hWz
  go_enter Try.func24, Try.ntmps24
  go_upto_region 1 with fail
  rw [HW.out]
  go_upto_region 3 with (first
    | (go_at_call 22; with_reducible refine H1.out.mono ?_; go_must (rintro e w1 ⟨A1, c1, rfl, _, hb1⟩; obtain ⟨y0, y1, y2, y3⟩ := HX.out w1 hb1; have H3 := Lib.hid (H2.out w1 hb1)))
    | (go_at_call 22; with_reducible refine H3.out.mono ?_; go_must (rintro e w2 ⟨A2, c2, rfl, _, hb2⟩))
    | fail)
  have hfin := hBW.trans ((hb1.trans (hb2.mono hb1.size)).mono hBW.size)
  cases r1 with
  | false =>
    go_wp2
    go_ret
    exact ⟨by rw [Hres.out]; rfl, hfin⟩
  | true =>
    go_wp2
    go_ret
    exact ⟨by rw [Hres.out]; rfl, hfin⟩

end Go.Proofs.Ytglfjmbclimeeaa

/- match: the law MatchFinds, walked. -/

namespace Go.Proofs.Ytglfjmbclimeeaa

open Go.RowKit Go.Shelf
set_option maxRecDepth 100000

theorem binds_up {w w1 : World} {A : Option Addr} {l : List Bd} (h : Binds w (· < w.heap.size) A l) (hb : Below w.heap.size w w1) : Binds w1 (· < w1.heap.size) A l := (h.keep fun g e => hb.block g e).wide fun _ e => Nat.lt_of_lt_of_le e hb.size

set_option maxHeartbeats 4000000 in
theorem MatchFinds_any (p u : Tm) (A B : Option Addr) (c d : Nat) (w : World) (hp : p.size ≤ 1099511627776) (hu : u.size ≤ 1099511627776) (hp64 : I64 p.fn) (hu64 : I64 u.fn) (hA : Args w w.heap.size A p.args) (hB : Args w w.heap.size B u.args) :
    Calls Try.prog 4 #[.agg #[.int .i64 p.fn, .slice A p.args.length c], .agg #[.int .i64 u.fn, .slice B u.args.length d]] w fun e w' => e = .returned (.bool true) ∧ Below w.heap.size w w' := by
  obtain ⟨W, hW⟩ : ∃ W, (w.alloc (.cells #[.int .i64 p.fn, .slice A p.args.length c] 31)).alloc (.cells #[.int .i64 u.fn, .slice B u.args.length d] 31) = W := ⟨_, rfl⟩
  obtain ⟨hBW, hWz, q0, q1⟩ := box2 hW
  have HX := Lib.hid (fun (w1 : World) (h : Below W.heap.size W w1) => (⟨(cells_two ((h.block _ (by omega)).trans q0)).1, (cells_two ((h.block _ (by omega)).trans q0)).2.1, (cells_two ((h.block _ (by omega)).trans q1)).1, (cells_two ((h.block _ (by omega)).trans q1)).2.1⟩ : w1.cell? ⟨w.heap.size, 0, none⟩ = some (.int .i64 p.fn) ∧ w1.cell? ⟨w.heap.size, 1, none⟩ = some (.slice A p.args.length c) ∧ w1.cell? ⟨w.heap.size + 1, 0, none⟩ = some (.int .i64 u.fn) ∧ w1.cell? ⟨w.heap.size + 1, 1, none⟩ = some (.slice B u.args.length d)))
  have hAW := hA.on hBW
  have hBW' := hB.on hBW
  have H1 := match_has (mmatch_any p u A B c d W hp (by omega) hp64 hu64 hAW hBW')
  have H2 := (fun (w1 : World) (h : Below W.heap.size W w1) => match_has (rmatch_any p u A B c d w1 hp (by omega) hp64 hu64 (hAW.on h) (hBW'.on h)))
  obtain ⟨ok, hok⟩ : ∃ r, matB p u = r := ⟨_, rfl⟩
  obtain ⟨R, hR⟩ : ∃ R, substM ((wkT p [] u).getD []) = R := ⟨_, rfl⟩
  obtain ⟨vr, hvr⟩ : ∃ r, varB p u = r := ⟨_, rfl⟩
  rw [hok, hR] at H1 H2
  have V1 : ∀ w1, Below W.heap.size W w1 → _ := fun w1 h => mvariant_any p u A B c d w1 hp hu hp64 hu64 (hAW.on h) (hBW'.on h)
  have V2 : ∀ w1, Below W.heap.size W w1 → _ := fun w1 h => rvariant_any p u A B c d w1 hp hu hp64 hu64 (hAW.on h) (hBW'.on h)
  rw [hvr] at V1 V2
  have V1 := Lib.hid V1
  have V2 := Lib.hid V2
  have H1 := Lib.hid H1
  have H2 := Lib.hid H2
  have hwk := Lib.hid mwakes_any
  have HW := Lib.hid hW
  have HBW := Lib.hid hBW
  obtain ⟨x0, x1, x2, x3⟩ := HX.out W (Below.refl _ _)
  clear hW q0 q1 hA hB hAW hBW' hWz hok hR hvr hBW
  go_enter Try.func4, Try.ntmps4
  go_upto_region 1 with fail
  rw [HW.out]
  go_upto_region 3 with (first
    | (go_at_call 21; with_reducible refine H1.out.mono ?_; go_must (rintro e w1 ⟨A1, c1, rfl, hD1, hb1⟩; have HD1 := Lib.hid hD1; clear hD1; obtain ⟨y0, y1, y2, y3⟩ := HX.out w1 hb1; have H3 := Lib.hid (H2.out w1 hb1)))
    | (go_at_call 22; with_reducible refine H3.out.mono ?_; go_must (rintro e w2 ⟨A2, c2, rfl, hD2, hb2⟩; have HD2 := Lib.hid hD2; clear hD2))
    | fail)
  have hB2 := hb1.trans (hb2.mono hb1.size)
  have hy : ∀ y : Later w2.heap.size w2, Below W.heap.size W y.w := fun y => hB2.trans (y.h.mono hB2.size)
  have j0 : ∀ y : Later w2.heap.size w2, y.w.cell? ⟨w.heap.size, 0, none⟩ = some (.int .i64 p.fn) := fun y => (HX.out y.w (hy y)).1
  have j1 : ∀ y : Later w2.heap.size w2, y.w.cell? ⟨w.heap.size, 1, none⟩ = some (.slice A p.args.length c) := fun y => (HX.out y.w (hy y)).2.1
  have j2 : ∀ y : Later w2.heap.size w2, y.w.cell? ⟨w.heap.size + 1, 0, none⟩ = some (.int .i64 u.fn) := fun y => (HX.out y.w (hy y)).2.2.1
  have j3 : ∀ y : Later w2.heap.size w2, y.w.cell? ⟨w.heap.size + 1, 1, none⟩ = some (.slice B u.args.length d) := fun y => (HX.out y.w (hy y)).2.2.2
  have K1 := Lib.hid fun y : Later w2.heap.size w2 => V1.out y.w (hy y)
  have K2 := Lib.hid fun y : Later w2.heap.size w2 => V2.out y.w (hy y)
  have K3 : ∀ y : Later w2.heap.size w2, Calls Try.prog 17 #[.slice A1 R.length c1, .slice A2 R.length c2] y.w fun e w' => e = .returned (.bool true) ∧ Below y.w.heap.size y.w w' := fun y => by
    have := refSubSame_any R R A1 A2 c1 c2 y.w (binds_up (binds_up HD1.out hb2) y.h) (binds_up HD2.out y.h)
    rwa [sameB_refl] at this
  have K3 := Lib.hid K3
  have K4 := Lib.hid fun y : Later w2.heap.size w2 => hwk.out y.w
  have hrr : (vr == vr) = true := by simp
  have hoo : (ok == ok) = true := by simp
  clear hy x0 x1 x2 x3 y0 y1 y2 y3 V1 V2
  refine wp_region_later w2.heap.size w2 (by kernel_rfl) (by kernel_rfl) (bl_drewN (Below.refl _ _) 1) ?_
  repeat (go_big_quiet_step (first
    | (go_at_call 23; with_reducible refine calls_later _ (Nat.le_refl _) (K1.out _))
    | (go_at_call 24; with_reducible refine calls_later _ (Nat.le_refl _) (K2.out _))
    | (go_at_call 17; with_reducible refine calls_later _ (Nat.le_refl _) (K3.out _))
    | (go_at_call 20; with_reducible refine calls_later _ (Nat.le_refl _) (K4.out _))
    | fail))
  refine wpQuiet_nil ?_
  rintro _ ⟨z, rfl⟩
  clear j0 j1 j2 j3 K1 K2 K3 K4
  go_wp2
  go_ret
  exact ⟨rfl, HBW.out.trans ((hB2.trans (z.h.mono hB2.size)).mono HBW.out.size)⟩

end Go.Proofs.Ytglfjmbclimeeaa

