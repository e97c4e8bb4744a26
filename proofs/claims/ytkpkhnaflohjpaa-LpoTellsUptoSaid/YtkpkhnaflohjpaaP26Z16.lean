import Derived.Test.YtkpkhnaflohjpaaP26Z15
import Derived.Test.YtkpkhnaflohjpaaP26Z2
import Derived.Test.YtkpkhnaflohjpaaP26Z7
import Derived.Test.YtkpkhnaflohjpaaP26Z5
import Derived.Deep.OwnRows
import Derived.Deep.RegionLaw
import Derived.Test.YtkpkhnaflohjpaaP26Z13
import Derived.Test.YtkpkhnaflohjpaaP26Z11
import Derived.ChangeSlices
import Derived.Test.YtkpkhnaflohjpaaRows
import Derived.ProofKit
import Derived.Below
import Derived.Carry
/- The document's own answer: Vars. -/

namespace Go.Proofs.Ytkpkhnaflohjpaa

open Go.RowKit
set_option maxRecDepth 100000

theorem insI_len (l : List Int) (v : Int) : (insI l v).length ≤ l.length + 1 := by
  have key : ∀ (r : List Int) (d : Bool) (out z : List Int), insGo v r d out = some z → z.length ≤ out.length + r.length + (if d then 0 else 1) := by
    intro r
    induction r with
    | nil =>
      intro d out z h
      simp only [insGo, Option.some.injEq] at h
      subst h
      cases d <;> simp
    | cons x r ih =>
      intro d out z h
      simp only [insGo] at h
      split at h
      · cases h
      · split at h
        · rename_i h2
          have := ih _ _ _ h
          simp only [h2.2, List.length_append, List.length_cons, List.length_nil] at this ⊢
          simp at this ⊢
          omega
        · have := ih _ _ _ h
          simp only [List.length_append, List.length_cons, List.length_nil] at this ⊢
          omega
  unfold insI
  cases h : insGo v l false [] with
  | none => simp
  | some z => have := key _ _ _ _ h; simp at this ⊢; omega

theorem insGo_i64 {v : Int} (hv : I64 v) : ∀ (r : List Int) (d : Bool) (out z : List Int), (∀ x ∈ r, I64 x) → (∀ x ∈ out, I64 x) → insGo v r d out = some z → ∀ x ∈ z, I64 x
  | [], d, out, z, hr, ho, h => by
    simp only [insGo, Option.some.injEq] at h
    subst h
    cases d
    · simp only [Bool.false_eq_true, if_false, List.mem_append, List.mem_cons, List.not_mem_nil, or_false]
      rintro x (hx | rfl)
      · exact ho x hx
      · exact hv
    · simpa using ho
  | y :: r, d, out, z, hr, ho, h => by
    have hy := hr y (by simp)
    have hr' : ∀ x ∈ r, I64 x := fun x hx => hr x (by simp [hx])
    simp only [insGo] at h
    split at h
    · cases h
    · split at h
      · refine insGo_i64 hv r _ _ z hr' ?_ h
        simp only [List.mem_append, List.mem_cons, List.not_mem_nil, or_false]
        rintro x ((hx | rfl) | rfl)
        · exact ho x hx
        · exact hv
        · exact hy
      · refine insGo_i64 hv r _ _ z hr' ?_ h
        simp only [List.mem_append, List.mem_cons, List.not_mem_nil, or_false]
        rintro x (hx | rfl)
        · exact ho x hx
        · exact hy

theorem insI_i64 {l : List Int} {v : Int} (hl : ∀ x ∈ l, I64 x) (hv : I64 v) : ∀ x ∈ insI l v, I64 x := by
  unfold insI
  cases h : insGo v l false [] with
  | none => simpa using hl
  | some z => simpa using insGo_i64 hv l _ _ z hl (by simp) h

def InsPost (l : List Int) (w : World) (e : Ending) (w' : World) : Prop := ∃ v, e = .returned v ∧ IntsV w' v l ∧ Below w.heap.size w w'

end Go.Proofs.Ytkpkhnaflohjpaa

/- The document's own answer: Vars, by Join. -/

namespace Go.Proofs.Ytkpkhnaflohjpaa

open Go.RowKit
set_option maxRecDepth 100000

theorem fold_len : ∀ (r l : List Int), (r.foldl insI l).length ≤ l.length + r.length
  | [], l => by simp
  | v :: r, l => by
    have h1 := fold_len r (insI l v)
    have h2 := insI_len l v
    simp only [List.foldl_cons, List.length_cons]
    omega

theorem vnL_le (xs : List Tm) (k : Nat) : (vnL (xs.take k)).length ≤ (vnL xs).length := by
  have := congrArg List.length (vnL_app (xs.take k) (xs.drop k))
  rw [List.take_append_drop, List.length_append] at this
  omega

end Go.Proofs.Ytkpkhnaflohjpaa

/- Single operations of a region that draws its order (RX): lengths of rows that calls make, sums, tests, what is skipped. -/

namespace Go.Proofs.Ytkpkhnaflohjpaa

open Go Go.RowKit Go.Shelf Go.Maps
set_option maxRecDepth 100000

/-- RX's rule, its end boxed. -/
theorem wp_region_factsS {P : Program} {Q : Exit → Act → World → Prop} {id : Nat} {a : Act} {w : World} {l : List Oper} (n : Nat) (dl : List (List (Nat × Option Nat))) (Fs : List Fct) (hm : P.follows .mixedOrders = true) (hk : kindF n l dl = true) (hn : a.tmps.size = n)
    (h : stepsF P Fs a w.drew l dl Fs) (hf : ∀ w', Below w.drew.heap.size w.drew w' → FinS (fun a' w'' => Q .normal a' w'') w' l Fs a) : (Code.region id l.toArray true).wp P Q a w :=
  wp_region_facts n dl Fs hm hk hn h fun w' hb => (hf w' hb).go

/-- A slice of so many. -/
def lenF (n : Nat) : Fct := ⟨fun v _ => ∃ A c, v = .slice A n c, fun h _ => h⟩

section

variable {Fs : List Fct} {a0 : Act} {W : World} {dst : Option Tmp} {ty : TypeId} {pos : String} {after : Array Edge} {guard : Option (Nat × Bool)}

theorem st_load2 {s b : Nat} {x y : Value} (hg : ∀ j want, guard = some (j, want) → ∀ v w, (Fs.getD j Fct.any).p v w → v = .bool want) (hs : a0.eval (.tmp s) = .pointer (some ⟨b, 0, none⟩)) (hW : W.heap[b]? = some (.cells #[x, y] 27)) :
    stepF Try.prog Fs a0 W ⟨dst, .load 27 (.tmp s), ty, pos, after, guard⟩ [(s, none)] (Fct.eq (.agg #[x, y])) := by
  refine .inl ⟨hg, fun a w hb hl => ?_⟩
  have h1 := ev_get (hl.1.trans hs)
  obtain ⟨c0, c1, _, _⟩ := cells_two ((hb.block b (Array.getElem?_eq_some_iff.1 hW).1).trans hW)
  simp [go_sem, leaves, h1, c0, c1]
  exact ⟨Below.refl _ _, rfl⟩

theorem st_skip {o : Oper} {j : Nat} {b : Bool} {ds : List (Nat × Option Nat)} (hg : o.guard = some (j, b)) (hF : Fs.getD j Fct.any = Fct.eq (.bool (!b))) : stepF Try.prog Fs a0 W o ds Fct.any :=
  .inr ⟨⟨j, b, hg, fun v w h => by rw [hF] at h; exact h⟩, fun _ => trivial⟩

theorem st_len {s j n : Nat} (hg : ∀ j want, guard = some (j, want) → ∀ v w, (Fs.getD j Fct.any).p v w → v = .bool want) (hF : Fs.getD j Fct.any = lenF n) :
    stepF Try.prog Fs a0 W ⟨dst, .call ⟨.builtin .len, #[.tmp s], #[22]⟩, ty, pos, after, guard⟩ [(s, some j)] (Fct.eq (.int .i64 (n : Int))) := by
  refine .inl ⟨hg, fun a w hb hl => ?_⟩
  have h0 := hl.1
  rw [hF] at h0
  obtain ⟨A, c, h0⟩ := h0
  have h1 := ev_get h0
  simp [go_sem, leaves, h1]
  exact ⟨Below.refl _ _, rfl⟩

theorem st_add {s s' j j' : Nat} {m n : Int} (hg : ∀ j want, guard = some (j, want) → ∀ v w, (Fs.getD j Fct.any).p v w → v = .bool want) (hF : Fs.getD j Fct.any = Fct.eq (.int .i64 m)) (hF' : Fs.getD j' Fct.any = Fct.eq (.int .i64 n)) (hw : IntKind.i64.wrap (m + n) = m + n) :
    stepF Try.prog Fs a0 W ⟨dst, .binOp .add 3 (.tmp s) (.tmp s') 3, ty, pos, after, guard⟩ [(s, some j), (s', some j')] (Fct.eq (.int .i64 (m + n))) := by
  refine .inl ⟨hg, fun a w hb hl => ?_⟩
  have h0 := hl.1
  have h0' := hl.2.1
  rw [hF] at h0
  rw [hF'] at h0'
  have h1 := ev_get h0
  have h2 := ev_get h0'
  simp [go_sem, leaves, h1, h2, hw]
  exact ⟨Below.refl _ _, rfl⟩

theorem st_eqv {s j : Nat} {m k : Int} {b : Bool} (hg : ∀ j want, guard = some (j, want) → ∀ v w, (Fs.getD j Fct.any).p v w → v = .bool want) (hF : Fs.getD j Fct.any = Fct.eq (.int .i64 m)) (hb : (m == k) = b) :
    stepF Try.prog Fs a0 W ⟨dst, .binOp .eql 3 (.tmp s) (.const (.int .i64 k)) 3, ty, pos, after, guard⟩ [(s, some j)] (Fct.eq (.bool b)) := by
  refine .inl ⟨hg, fun a w hb' hl => ?_⟩
  have h0 := hl.1
  rw [hF] at h0
  have h1 := ev_get h0
  simp [go_sem, leaves, h1, hb]
  exact ⟨Below.refl _ _, rfl⟩

theorem st_eqr {s j : Nat} {m k : Int} {b : Bool} (hg : ∀ j want, guard = some (j, want) → ∀ v w, (Fs.getD j Fct.any).p v w → v = .bool want) (hF : Fs.getD j Fct.any = Fct.eq (.int .i64 m)) (hb : (m == k) = b) :
    stepF Try.prog Fs a0 W ⟨dst, .binOp .eql 30 (.tmp s) (.const (.int .i64 k)) 30, ty, pos, after, guard⟩ [(s, some j)] (Fct.eq (.bool b)) := by
  refine .inl ⟨hg, fun a w hb' hl => ?_⟩
  have h0 := hl.1
  rw [hF] at h0
  have h1 := ev_get h0
  simp [go_sem, leaves, h1, hb]
  exact ⟨Below.refl _ _, rfl⟩

theorem st_call3 {f s s' s'' j j' j'' : Nat} {v v' v'' u : Value} {t t' t'' : TypeId} (hent : Go.Proofs.Enters Try.prog f) (hC : ∀ w, Below W.heap.size W w → Calls Try.prog f #[v, v', v''] w fun e w' => e = .returned u ∧ Below w.heap.size w w') (hg : ∀ j want, guard = some (j, want) → ∀ v w, (Fs.getD j Fct.any).p v w → v = .bool want) (hF : Fs.getD j Fct.any = Fct.eq v) (hF' : Fs.getD j' Fct.any = Fct.eq v') (hF'' : Fs.getD j'' Fct.any = Fct.eq v'') :
    stepF Try.prog Fs a0 W ⟨dst, .call ⟨.value (.func f), #[.tmp s, .tmp s', .tmp s''], #[t, t', t'']⟩, ty, pos, after, guard⟩ [(s, some j), (s', some j'), (s'', some j'')] (Fct.eq u) := by
  refine .inl ⟨hg, fun a w hb hl => ?_⟩
  obtain ⟨h0, h0', h0'', _⟩ := hl
  rw [hF] at h0
  rw [hF'] at h0'
  rw [hF''] at h0''
  have h1 := ev_get h0
  have h2 := ev_get h0'
  have h3 := ev_get h0''
  have he := hent #[v, v', v''] w
  simp [go_sem, leaves, h1, h2, h3, he]
  refine (hC w hb).mono fun e w' ⟨he, hw⟩ => ?_
  exact ⟨_, he, hw, rfl⟩

theorem st_pickT {s s' j j' : Nat} {x v : Value} (hg : ∀ j want, guard = some (j, want) → ∀ v w, (Fs.getD j Fct.any).p v w → v = .bool want) (hF : Fs.getD j Fct.any = Fct.eq (.bool true)) (hF' : Fs.getD j' Fct.any = Fct.eq v) :
    stepF Try.prog Fs a0 W ⟨dst, .pick (.tmp s) (.tmp s') (.const x), ty, pos, after, guard⟩ [(s, some j), (s', some j')] (Fct.eq v) := by
  refine .inl ⟨hg, fun a w hb hl => ?_⟩
  have h0 := hl.1
  have h0' := hl.2.1
  rw [hF] at h0
  rw [hF'] at h0'
  have h1 := ev_get h0
  have h2 := ev_get h0'
  simp [go_sem, leaves, h1, h2]
  exact ⟨Below.refl _ _, rfl⟩

theorem st_pickF {s s' j j' : Nat} {x : Value} (hg : ∀ j want, guard = some (j, want) → ∀ v w, (Fs.getD j Fct.any).p v w → v = .bool want) (hF : Fs.getD j Fct.any = Fct.eq (.bool false)) :
    stepF Try.prog Fs a0 W ⟨dst, .pick (.tmp s) (.tmp s') (.const x), ty, pos, after, guard⟩ [(s, some j), (s', some j')] (Fct.eq x) := by
  refine .inl ⟨hg, fun a w hb hl => ?_⟩
  have h0 := hl.1
  rw [hF] at h0
  have h1 := ev_get h0
  simp [go_sem, leaves, h1]
  exact ⟨Below.refl _ _, rfl⟩

end

/-- How many variables stand in a term. -/
def nvT (t : Tm) : Nat := ((vn t).foldl insI []).length

end Go.Proofs.Ytkpkhnaflohjpaa

/- lpo: the document's own over, walked. -/

namespace Go.Proofs.Ytkpkhnaflohjpaa

open Go Go.RowKit Go.Shelf Go.Maps
set_option maxRecDepth 100000

/-- The pair as it is made: rows of nothing found, k of them, in blocks of their own. -/
structure OvP (w1 wr : World) (bp : Nat) (o : Odr) (P Q : Option Addr) (pc qc : Nat) (A B : Option Addr) (ca cb na nb k : Nat) (fv : Value) (rb : Nat → Nat) : Prop where
  keep : KeepsC (· = bp) w1 wr
  box : wr.heap[bp]? = some (.cells #[.bool o.lpo, .slice P o.prec.length pc, .slice Q o.wts.length qc, .int .i64 o.var, .slice A na ca, .slice B nb cb, fv] 50)
  row : wr.ownsRow w1.heap.size 22 1 fv k ((List.range k).map fun i => .slice (some ⟨rb i, 0, none⟩) nb nb)
  rws : ∀ i, i < k → w1.heap.size ≤ rb i ∧ rb i < wr.heap.size ∧ fv.ownBlock ≠ some (rb i) ∧ wr.heap[rb i]? = some (.cells (madeCells #[.int .i64 0] nb) 3)
  inj : ∀ i j, i < k → j < k → rb i = rb j → i = j

theorem infoRows : (Try.prog.info? 22).map (fun i => (i.zero, i.size, i.bytes)) = some (some (.slice none 0 0), 1, 24) := by kernel_rfl

theorem cell_row1 {W : World} {b : Nat} {x : Value} {t : TypeId} (h : W.heap[b]? = some (.cells #[x] t)) : W.cell? ⟨b, 0, none⟩ = some x := by
  simp only [World.cell?, h]; rfl

theorem cells_7 {W : World} {b : Nat} {x0 x1 x2 x3 x4 x5 x6 : Value} {t : TypeId} (h : W.heap[b]? = some (.cells #[x0, x1, x2, x3, x4, x5, x6] t)) : W.cell? ⟨b, 0, none⟩ = some x0 ∧ W.cell? ⟨b, 1, none⟩ = some x1 ∧ W.cell? ⟨b, 2, none⟩ = some x2 ∧ W.cell? ⟨b, 3, none⟩ = some x3 ∧ W.cell? ⟨b, 4, none⟩ = some x4 ∧ W.cell? ⟨b, 5, none⟩ = some x5 ∧ W.cell? ⟨b, 6, none⟩ = some x6 := by
  simp [World.cell?, h]

theorem made_get {n j : Nat} (h : j < n) : (madeCells #[.int .i64 0] n)[j]? = some (.int .i64 0) := by
  simp [madeCells, h, Nat.mod_one]

section

variable {w1 wr w5 : World} {bp : Nat} {o : Odr} {P Q : Option Addr} {pc qc : Nat} {A B : Option Addr} {ca cb na nb k : Nat} {fv v5 : Value} {rb : Nat → Nat}

/-- One more. -/
theorem OvP.next {ob : Obj} (h : OvP w1 wr bp o P Q pc qc A B ca cb na nb k fv rb) (hb : bp < w1.heap.size) (hown : w5.ownsRow w1.heap.size 22 1 v5 (k + 1) ((List.range k).map (fun i => Value.slice (some ⟨rb i, 0, none⟩) nb nb) ++ [.slice (some ⟨wr.heap.size, 0, none⟩) nb nb]))
    (hg : ((wr.alloc (.cells (madeCells #[.int .i64 0] nb) 3)).alloc ob).grownBy w5 fv.ownBlock) (hat : v5.ownBlock = fv.ownBlock ∨ v5.ownBlock = some (wr.heap.size + 1 + 1)) :
    OvP w1 (w5.setCell ⟨bp, 6, none⟩ v5) bp o P Q pc qc A B ca cb na nb (k + 1) v5 (fun i => if i = k then wr.heap.size else rb i) := by
  have hlt := row_lt h.row
  have hk := h.keep.size
  have hgs := hg.size
  have hsz : wr.heap.size + 1 + 1 ≤ w5.heap.size := by simpa using hgs
  have hal : ∀ g, g < wr.heap.size → ((wr.alloc (.cells (madeCells #[.int .i64 0] nb) 3)).alloc ob).heap[g]? = wr.heap[g]? := fun g e => (Below.heap_alloc _ _ g (by simp; omega)).trans (Below.heap_alloc _ _ g e)
  have hK : ∀ g, g < wr.heap.size → fv.ownBlock ≠ some g → w5.heap[g]? = wr.heap[g]? := fun g h1 h2 => (hg.block g (by simp; omega) (fun e => h2 e.symm)).trans (hal g h1)
  have hfb : fv.ownBlock ≠ some bp := fun e => by have := (hlt _ e).1; omega
  have hset : ∀ g, g ≠ bp → (w5.setCell ⟨bp, 6, none⟩ v5).heap[g]? = w5.heap[g]? := fun g e => heap_setCell_other _ _ _ _ e
  have hbox := (hK bp (by omega) hfb).trans h.box
  have hnew : w5.heap[wr.heap.size]? = some (.cells (madeCells #[.int .i64 0] nb) 3) := by
    refine (hg.block _ (by simp; omega) (fun e => ?_)).trans ((Below.heap_alloc _ _ _ (by simp)).trans (heap_alloc_new _ _))
    have := (hlt _ e.symm).2
    omega
  have hlt5 := row_lt hown
  have hv5 : ∀ g, g < wr.heap.size → fv.ownBlock ≠ some g → v5.ownBlock ≠ some g := fun g h1 h2 e => by
    rcases hat with h3 | h3
    · rw [h3] at e; exact h2 e
    · rw [h3] at e; injection e with e; omega
  refine ⟨?_, ?_, ?_, fun i hi => ?_, fun i j hi hj e => ?_⟩
  · refine Keeps.trans h.keep ⟨?_, ?_, ?_, ?_, fun g hg2 => ?_⟩
    · exact hg.os
    · exact hg.tape
    · exact hg.output
    · simp; omega
    · rw [hset g hg2.2]
      exact hK g (by have := hg2.1; omega) (fun e => by have := (hlt _ e).1; have := hg2.1; omega)
  · exact heap_setCell_same w5 _ 6 _ _ _ hbox
  · refine row_keep (W := w5) ?_ fun g e => hset g (by have := (hlt5 g e).1; omega)
    rw [List.range_succ, List.map_append, List.map_cons, List.map_nil, if_pos rfl]
    have : (List.range k).map (fun i => Value.slice (some ⟨if i = k then wr.heap.size else rb i, 0, none⟩) nb nb) = (List.range k).map (fun i => Value.slice (some ⟨rb i, 0, none⟩) nb nb) := List.map_congr_left fun i hi => by
      rw [if_neg (by have := List.mem_range.1 hi; omega)]
    rw [this]
    exact hown
  · by_cases e : i = k
    · rw [if_pos e]
      refine ⟨by omega, by simp; omega, fun e2 => ?_, (hset _ (by omega)).trans hnew⟩
      rcases hat with h3 | h3
      · rw [h3] at e2; have := (hlt _ e2).2; omega
      · rw [h3] at e2; injection e2 with e2; omega
    · rw [if_neg e]
      obtain ⟨r1, r2, r3, r4⟩ := h.rws i (by omega)
      exact ⟨r1, by simp; omega, hv5 _ r2 r3, (hset _ (by omega)).trans ((hK _ r2 r3).trans r4)⟩
  · have hr := fun i (hi : i < k) => (h.rws i hi).2.1
    by_cases e1 : i = k
    · by_cases e2 : j = k
      · omega
      · rw [if_pos e1, if_neg e2] at e
        have := hr j (by omega); omega
    · by_cases e2 : j = k
      · rw [if_neg e1, if_pos e2] at e
        have := hr i (by omega); omega
      · rw [if_neg e1, if_neg e2] at e
        exact h.inj i j (by omega) (by omega) e

end

set_option maxHeartbeats 4000000 in
theorem refOver9_any (o : Odr) : OvrI o := by
  intro s t P Q A A2 pc qc c c2 w hks hkt hzs hzt hM hfs hft hA hA2
  obtain ⟨q0, q1, q2⟩ := heap3 w (.cells #[.bool o.lpo, .slice P o.prec.length pc, .slice Q o.wts.length qc, .int .i64 o.var] 24) (.cells #[.int .i64 s.fn, .slice A s.args.length c] 27) (.cells #[.int .i64 t.fn, .slice A2 t.args.length c2] 27)
  obtain ⟨W, hW⟩ : ∃ W, (((w.alloc (.cells #[.bool o.lpo, .slice P o.prec.length pc, .slice Q o.wts.length qc, .int .i64 o.var] 24)).alloc (.cells #[.int .i64 s.fn, .slice A s.args.length c] 27)).alloc (.cells #[.int .i64 t.fn, .slice A2 t.args.length c2] 27)) = W := ⟨_, rfl⟩
  rw [hW] at q0 q1 q2
  have hB : Below w.heap.size w W := by rw [← hW]; exact (((Below.refl _ _).alloc (Nat.le_refl _) _).alloc (by simp) _).alloc (by simp; omega) _
  have hAW := hA.blw hB
  have hA2W := hA2.blw hB
  have hMW := hM.p.blw hB
  have hbs := hB.size
  have HW := Lib.hid hW
  have HM := Lib.hid hMW
  clear hW hA hA2 hM hMW
  go_enter Try.func14, Try.ntmps14
  go_upto_region 1 with fail
  rw [HW.out]
  refine wp_region_factsS 42 [[(3, none)], [(4, none)], [(10, some 1)], [(5, none)], [(12, some 3)], [(9, some 0), (11, some 2), (13, some 4)], [(14, some 5)], [(15, some 6)]]
    [Fct.eq (.agg #[.bool o.lpo, .slice P o.prec.length pc, .slice Q o.wts.length qc, .int .i64 o.var]), Fct.eq (.agg #[.int .i64 s.fn, .slice A s.args.length c]), tabF w.heap.size s, Fct.eq (.agg #[.int .i64 t.fn, .slice A2 t.args.length c2]), tabF w.heap.size t, prF w.heap.size o P Q pc qc s t, ptF w.heap.size o P Q pc qc s t, ptF w.heap.size o P Q pc qc s t] (by kernel_rfl) (by decide +kernel) (by kernel_rfl) ?_ ?_
  · exact ⟨so_load4 rfl q0, so_load2 rfl q1, so_flat rfl hzs hfs (hAW.drewN 1) hbs, so_load2 rfl q2, so_flat rfl hzt hft (hA2W.drewN 1) hbs, so_build rfl rfl rfl hzs hzt, so_box rfl hzs hzt, so_assign rfl, trivial⟩
  · intro w1 hb1
    generalize hA0 : ({ tmps := _, defers := _ } : Act) = a0
    have hsz : a0.tmps.size = 42 := by rw [← hA0]; rfl
    refine FinS.some rfl (fun u0 (e0 : u0 = _) => ?_)
    subst e0
    refine FinS.some rfl (fun u1 (e1 : u1 = _) => ?_)
    subst e1
    refine FinS.some rfl (fun u2 _ => ?_)
    refine FinS.some rfl (fun u3 (e3 : u3 = _) => ?_)
    subst e3
    refine FinS.some rfl (fun u4 _ => FinS.some rfl (fun u5 _ => FinS.some rfl (fun u6 _ => FinS.some rfl (fun u7 e7 => FinS.nil ?_))))
    obtain ⟨bp, A', B', ca, cb, rfl, hbp, hbl, hbk, hNa, hNb⟩ := e7
    subst hA0
    clear hsz
    simp only [Act.put, List.setIfInBounds_toArray, List.set_cons_succ, List.set_cons_zero]
    go_wp2
    obtain ⟨na, hna⟩ : ∃ n, (ndT 0 s).length = n := ⟨_, rfl⟩
    obtain ⟨nb, hnb⟩ : ∃ n, (ndT 0 t).length = n := ⟨_, rfl⟩
    have hna1 : na ≤ 1073741824 := by rw [← hna, ndT_len]; exact hzs
    have hnb1 : nb ≤ 1073741824 := by rw [← hnb, ndT_len]; exact hzt
    obtain ⟨i1, hi1, hy0, hy1, hy2⟩ := info_parts infoInt
    obtain ⟨i2, hi2, hx0, hx1, hx2⟩ := info_parts infoRows
    have hmk : ∀ w : World, (Instr.makeSlice 22 (.int .i64 (nb : Int)) (.int .i64 (nb : Int))).run Try.prog w = .ok (.slice (some ⟨w.heap.size, 0, none⟩) nb nb) (w.alloc (.cells (madeCells #[.int .i64 0] nb) 3)) := fun w => run_make_row _ _ i1 _ Try.underlying22 hi1 hy0 hy1 rfl _ _ nb (by rw [hy2]; omega) (by omega) w
    rw [hna, hnb] at hbk
    have HNa := Lib.hid hna
    have HNb := Lib.hid hnb
    have H0 : Hid (OvP w1 w1 bp o P Q pc qc A' B' ca cb na nb 0 (.slice none 0 0) (fun _ => 0)) := Lib.hid ⟨KeepsC.refl _ _, hbk, ⟨rfl, .inl ⟨rfl, rfl⟩⟩, fun i h => by omega, fun i j h => by omega⟩
    have HNa' := Lib.hid hNa
    have HNb' := Lib.hid hNb
    have hbs0 : Hid (Below w.heap.size W w1) := Lib.hid (by
      have h1 : Below W.heap.size W w1 := ⟨hb1.os, hb1.tape, hb1.output, hb1.size, hb1.block⟩
      exact h1.mono hbs)
    clear hna hnb hNa hNb hb1
    go_loopw [8] (fun i wr => ∃ (k : Nat) (fv : Value) (rb : Nat → Nat), k ≤ na ∧ i = .int .i64 (k : Int) ∧ Hid (OvP w1 wr bp o P Q pc qc A' B' ca cb na nb k fv rb)) (fun i _ => na - (intOf i).toNat)
    case atStart => exact ⟨0, _, _, Nat.zero_le _, rfl, H0⟩
    case round =>
      obtain ⟨k, fv, rb, hk, rfl, H⟩ := hrel
      obtain ⟨x0, x1, x2, x3, x4, x5, x6⟩ := cells_7 H.out.box
      have hbr : bp < wr.heap.size := Nat.lt_of_lt_of_le hbl H.out.keep.size
      by_cases hlt : k < na
      · obtain ⟨Av, cv, hv⟩ := row_slice H.out.row
        subst hv
        have hrl := row_lt H.out.row
        have hfb : (Value.slice Av k cv).ownBlock ≠ some bp := fun e => by have := (hrl _ e).1; omega
        have hBX : ∀ w' : World, w'.heap[bp]? = wr.heap[bp]? → w'.cell? ⟨bp, 6, none⟩ = some (.slice Av k cv) ∧ w'.frozen? ⟨bp, 6, none⟩ = false := fun w' h => ⟨(cell_of_heap h).trans x6, (frozen_of_heap h).trans (frozen_9 H.out.box 6)⟩
        obtain ⟨M, hM1⟩ : ∃ M, Obj.cells (madeCells #[.int .i64 0] nb) 3 = M := ⟨_, rfl⟩
        obtain ⟨Bo, hBo⟩ : ∃ Bo, Obj.cells #[.slice (some ⟨wr.heap.size, 0, none⟩) nb nb] 22 = Bo := ⟨_, rfl⟩
        have hal : ∀ g, g < wr.heap.size → ((wr.alloc M).alloc Bo).heap[g]? = wr.heap[g]? := fun g e => (Below.heap_alloc _ _ g (by simp; omega)).trans (Below.heap_alloc _ _ g e)
        have hnc : ∀ j u, [Value.slice (some ⟨wr.heap.size, 0, none⟩) nb nb][j]? = some u → ((wr.alloc M).alloc Bo).cell? ((⟨wr.heap.size + 1, 0, none⟩ : Addr).add j) = some u := by
          intro j u hj
          cases j with
          | zero =>
            simp at hj
            subst hj
            have := heap_alloc_new (wr.alloc M) Bo
            rw [← hBo] at this ⊢
            rw [show (wr.alloc M).heap.size = wr.heap.size + 1 by simp] at this
            exact cell_row1 this
          | succ j => simp at hj
        have Hal := Lib.hid hal
        have Hnc := Lib.hid hnc
        subst hM1 hBo
        have hrow := H.out.row
        have Hrow := Lib.hid hrow
        have hb1s := H.out.keep.size
        clear hal hnc hrow
        go_wp2
        go_region_law
          (first
            | (go_must (
               refine step_append_at rfl (.tmp 29) (.tmp 36) 48 rfl w1.heap.size 22 i2 (.slice none 0 0) 1 24 Try.underlying48 hi2 hx0 hx1 hx2 rfl (by decide) (.slice Av k cv) k _ (by simp [Act.eval]) (row_keep Hrow.out fun g e => Hal.out g (hrl g e).2) ⟨wr.heap.size + 1, 0, none⟩ 1 1 [.slice (some ⟨wr.heap.size, 0, none⟩) nb nb] (by simp [Act.eval]) rfl (fun j u hj => Hnc.out j u hj) (by simp [Value.oneCell']) (by unfold maxLen; omega) (by omega) (by simp; omega) ?_
               intro v5 w5 hown5 hgr5 hat5
               obtain ⟨A5, c5, rfl⟩ := row_slice hown5
               have hat6 : (Value.slice A5 (k + 1) c5).ownBlock = (Value.slice Av k cv).ownBlock ∨ (Value.slice A5 (k + 1) c5).ownBlock = some (wr.heap.size + 1 + 1) := hat5.imp id fun e => e.trans (by simp)
               have hgr6 : ((wr.alloc (.cells (madeCells #[.int .i64 0] nb) 3)).alloc (.cells #[.slice (some ⟨wr.heap.size, 0, none⟩) nb nb] 22)).grownBy w5 (Value.slice Av k cv).ownBlock := ⟨hgr5.os, hgr5.tape, hgr5.output, hgr5.size, hgr5.block⟩
               have HN := Lib.hid (H.out.next hbl hown5 hgr6 hat6)
               have hbx := hBX w5 ((hgr5.block bp (by simp; omega) (fun e => hfb e.symm)).trans (Hal.out bp hbr))
               obtain ⟨hb6, hb7⟩ := hbx
               clear hown5 hgr5 hgr6 hat5 hat6))
            | fail)
        all_goals
          go_wp2
          go_roundw
          case rel => exact ⟨k + 1, _, _, by omega, by go_num, HN⟩
          case measure => simp [intOf]; omega
      · obtain rfl : k = na := by omega
        have hnz : 0 < k := by have := HNa.out; rw [ndT_len] at this; have := size_pos s; omega
        have hPW : ∃ bo fc, PrW wr bp o P Q pc qc A' B' ca cb (ndT 0 s) (ndT 0 t) bo fc rb (fun _ _ => 0) := by
          have e1 := HNa.out
          have e2 := HNb.out
          subst e1 e2
          have hrl := row_lt H.out.row
          obtain ⟨g, cap, rfl⟩ : ∃ g cap, fv = .slice (some ⟨g, 0, none⟩) (ndT 0 s).length cap := by
            rcases H.out.row.2 with ⟨_, h0⟩ | ⟨g, cap, cur, hv, _⟩
            · omega
            · exact ⟨g, cap, hv⟩
          have hg := hrl g rfl
          have hkp : Below bp w1 wr := H.out.keep.below (by omega) fun g hg e => by omega
          have hks := H.out.keep.size
          refine ⟨g, cap, ⟨hbr, x0, x1, x2, x3, x4, x5, x6, ?_, HNa'.out.blw hkp, HNb'.out.blw hkp, ⟨by omega, hg.2⟩, fun i hi => ?_, fun i hi => ?_, H.out.inj, fun i j hi hj => ?_, fun i j hi hj => ?_⟩⟩
          · exact (HM.out.blw (hbs0.out)).more hbp |>.blw hkp
          · have := H.out.row.cellAt i (by omega)
            rw [this, List.getElem?_map, List.getElem?_range hi]; rfl
          · obtain ⟨r1, r2, r3, _⟩ := H.out.rws i hi
            exact ⟨by omega, r2, fun e => r3 (by rw [e]; rfl)⟩
          · have := (H.out.rws i hi).2.2.2
            simp only [World.cell?, this]
            exact made_get hj
          · exact frozen_9 (H.out.rws i hi).2.2.2 j
        obtain ⟨bo, fc, hPW⟩ := hPW
        have HC : Hid (Calls Try.prog 20 #[.pointer (some ⟨bp, 0, none⟩), .int .i64 0, .int .i64 0] wr fun e w' => e = .returned (.bool (lpT o.prec s t)) ∧ PrP bp o P Q pc qc A' B' ca cb (ndT 0 s) (ndT 0 t) bo fc rb (fun _ _ => 0) wr w') := Lib.hid (refAbv_all (rb := rb) (ndT_ok 0 s) (ndT_ok 0 t) (fun i u ku h => nd_known hks i u ku h) (fun i u ku h => nd_known hkt i u ku h) (s.size + t.size) 0 0 s _ t _ _ wr (ndT_head 0 s) (ndT_head 0 t) (Nat.le_refl _) (fun i k u ku x kx _ _ _ => .inl rfl) hPW)
        have HPW := Lib.hid hPW
        clear hPW hnz
        go_wp2_with (first
          | (go_at_call 20; (with_reducible refine HC.out.mono ?_); go_must (rintro e w5 ⟨rfl, hP5⟩; have HP5 := Lib.hid hP5; clear hP5))
          | fail)
        go_ret
        refine ⟨rfl, ?_⟩
        have hkp : Below bp w1 wr := H.out.keep.below (by omega) fun g hg e => by omega
        have h5 : Below bp wr w5 := HP5.out.1.below (by omega) fun g hg ⟨i, hi, e⟩ => by have := (HPW.out.rr i hi).1; omega
        exact (hB.trans hbs0.out).trans ((hkp.trans h5).mono hbp)

end Go.Proofs.Ytkpkhnaflohjpaa

/- LpoTells, out of wakes. -/

namespace Go.Proofs.Ytkpkhnaflohjpaa

open Go.RowKit Go.Shelf Go.Maps
set_option maxRecDepth 100000

set_option maxHeartbeats 4000000 in
theorem lpoTells_of (hwk : ∀ w : World, Calls Try.prog 5 #[] w fun e w' => e = .returned (.bool true) ∧ Below w.heap.size w w') (o : Odr) (s t : Tm) (P Q A A2 : Option Addr) (pc qc c c2 : Nat) (w : World) (hM : OdrM w w.heap.size o P Q) (hrk : o.prec.length ≤ 140737488351232) (hf : I64 s.fn) (hg : I64 t.fn) (hzs : s.size ≤ 1048576) (hzt : t.size ≤ 1048576) (hA : ArgsK w (· < w.heap.size) A c s.args) (hA2 : ArgsK w (· < w.heap.size) A2 c2 t.args) :
    Calls Try.prog 3 #[.agg #[.bool o.lpo, .slice P o.prec.length pc, .slice Q o.wts.length qc, .int .i64 o.var], .agg #[.int .i64 s.fn, .slice A s.args.length c], .agg #[.int .i64 t.fn, .slice A2 t.args.length c2]] w fun e w' => e = .returned (.bool true) ∧ Below w.heap.size w w' := by
  obtain ⟨W, hW⟩ : ∃ W, (((w.alloc (.cells #[.bool o.lpo, .slice P o.prec.length pc, .slice Q o.wts.length qc, .int .i64 o.var] 24)).alloc (.cells #[.int .i64 s.fn, .slice A s.args.length c] 27)).alloc (.cells #[.int .i64 t.fn, .slice A2 t.args.length c2] 27)) = W := ⟨_, rfl⟩
  obtain ⟨hB, hz, hS⟩ := box_ott hW
  have HW := Lib.hid hW
  obtain ⟨x0, x1, x2, x3, x4, x5, x6, x7⟩ := hS W (Below.refl _ _)
  have HS := Lib.hid hS
  have HBB : ∀ w1, Below W.heap.size W w1 → Below w.heap.size w w1 := fun w1 h => hB.trans (h.mono hB.size)
  have HAk : Hid (∀ w1, Below W.heap.size W w1 → ArgsK w1 (· < w1.heap.size) A c s.args) := Lib.hid fun w1 hb => (hA.keep fun g e => (HBB w1 hb).block g e).wide fun g e => Nat.lt_of_lt_of_le e (HBB w1 hb).size
  have HAk2 : Hid (∀ w1, Below W.heap.size W w1 → ArgsK w1 (· < w1.heap.size) A2 c2 t.args) := Lib.hid fun w1 hb => (hA2.keep fun g e => (HBB w1 hb).block g e).wide fun g e => Nat.lt_of_lt_of_le e (HBB w1 hb).size
  have HMk : Hid (∀ w1, Below W.heap.size W w1 → OdrM w1 w1.heap.size o P Q) := Lib.hid fun w1 hb => hM.on (HBB w1 hb)
  have q5 := heap_alloc_new W (.cells #[.int .i64 s.fn, .slice A s.args.length c, .int .i64 t.fn, .slice A2 t.args.length c2] 27)
  obtain ⟨W5, hW5⟩ : ∃ W5, W.alloc (.cells #[.int .i64 s.fn, .slice A s.args.length c, .int .i64 t.fn, .slice A2 t.args.length c2] 27) = W5 := ⟨_, rfl⟩
  have hB5 : Below W.heap.size W W5 := by rw [← hW5]; exact (Below.refl _ _).alloc (Nat.le_refl _) _
  rw [hW5] at q5
  have hl5 : W.heap.size < W5.heap.size := (Array.getElem?_eq_some_iff.1 q5).1
  have hG : Calls Try.prog 4 #[.slice (some ⟨W.heap.size, 0, none⟩) 2 2] W5 fun e w' => e = .returned (.bool (decide (2000 < sizes [s, t]))) ∧ Below W5.heap.size W5 w' :=
    lpoGreat_any [s, t] (fun x hx => by simp at hx; rcases hx with rfl | rfl <;> omega) (some ⟨W.heap.size, 0, none⟩) 2 W5 (argsK_two (N := (· < W5.heap.size)) q5 hl5 hf hg (HAk.out W5 hB5) (HAk2.out W5 hB5)).toA
  have HW5 := Lib.hid hW5
  have Hwk := Lib.hid hwk
  clear hW hS hA hA2 hM hW5 q5 hwk hz
  go_enter Try.func3, Try.ntmps3
  go_upto_region 1 with fail
  rw [HW.out]
  cases hgr : decide (2000 < sizes [s, t]) with
  | true =>
    rw [hgr] at hG
    have HG := Lib.hid hG
    clear hG hgr
    go_wp2_with (first
      | (go_at_call 4; go_must (rw [HW5.out]; (with_reducible refine HG.out.mono ?_); rintro e w1 ⟨rfl, hb1⟩))
      | (go_at_call 5; (with_reducible refine (Hwk.out _).mono ?_); go_must (rintro e w2 ⟨rfl, hb2⟩))
      | fail)
    go_ret
    exact ⟨rfl, (HBB w1 (hB5.trans (hb1.mono hB5.size))).trans (hb2.mono (HBB w1 (hB5.trans (hb1.mono hB5.size))).size)⟩
  | false =>
    rw [hgr] at hG
    have HG := Lib.hid hG
    clear hG hgr
    go_upto_region 3 with (first
      | (go_at_call 4; go_must (rw [HW5.out]; (with_reducible refine HG.out.mono ?_); rintro e w1 ⟨rfl, hb1⟩))
      | fail)
    have hbW1 := hB5.trans (hb1.mono hB5.size)
    obtain ⟨y0, y1, y2, y3, y4, y5, y6, y7⟩ := HS.out w1 hbW1
    have HR := Lib.hid (refCmp9_any o (refOver9_any o) s t P Q A A2 pc qc c c2 w1 (by omega) (by omega) (HMk.out w1 hbW1) hf hg (HAk.out w1 hbW1).toA (HAk2.out w1 hbW1).toA)
    go_upto_region 4 with (first
      | (go_at_call 6; (with_reducible refine HR.out.mono ?_); go_must (rintro e w2 ⟨rfl, hb2⟩))
      | fail)
    have hbW2 := hbW1.trans (hb2.mono hbW1.size)
    have C1 : Hid (∀ w3, Below W.heap.size W w3 → Calls Try.prog 7 #[.agg #[.bool o.lpo, .slice P o.prec.length pc, .slice Q o.wts.length qc, .int .i64 o.var], .agg #[.int .i64 s.fn, .slice A s.args.length c], .agg #[.int .i64 t.fn, .slice A2 t.args.length c2]] w3 fun e w' => e = .returned (.int .i64 (cmpP o.prec s t)) ∧ Below w3.heap.size w3 w') := Lib.hid fun w3 h => lpoCmp_any o s t P Q A A2 pc qc c c2 w3 (HMk.out w3 h) hrk hf hg (by omega) (HAk.out w3 h) (HAk2.out w3 h)
    have C2 : Hid (∀ w3, Below W.heap.size W w3 → Calls Try.prog 8 #[.agg #[.bool o.lpo, .slice P o.prec.length pc, .slice Q o.wts.length qc, .int .i64 o.var], .agg #[.int .i64 s.fn, .slice A s.args.length c], .agg #[.int .i64 t.fn, .slice A2 t.args.length c2]] w3 fun e w' => e = .returned (.bool (cmpP o.prec s t == 3)) ∧ Below w3.heap.size w3 w') := Lib.hid fun w3 h => lpoAbove_any o s t P Q A A2 pc qc c c2 w3 (HMk.out w3 h) hrk hf hg (by omega) (HAk.out w3 h) (HAk2.out w3 h)
    clear y0 y1 y2 y3 y4 y5 y6 y7 x0 x1 x2 x3 x4 x5 x6 x7
    obtain ⟨y0, y1, y2, y3, y4, y5, y6, y7⟩ := HS.out w2 hbW2
    obtain ⟨q, hq⟩ : ∃ q, cmpP o.prec s t = q := ⟨_, rfl⟩
    rw [hq] at C1 C2 ⊢
    clear hq HR
    go_wp2_with (first
      | (go_at_call 7; (with_reducible refine (C1.out _ hbW2).mono ?_); go_must (rintro e w3 ⟨rfl, hb3⟩; have hbW3 := hbW2.trans (hb3.mono hbW2.size); obtain ⟨z0, z1, z2, z3, z4, z5, z6, z7⟩ := HS.out w3 hbW3))
      | (go_at_call 8; (with_reducible refine (C2.out _ hbW3).mono ?_); go_must (rintro e w4 ⟨rfl, hb4⟩; have hbW4 := hbW3.trans (hb4.mono hbW3.size)))
      | (go_at_call 5; (with_reducible refine (Hwk.out _).mono ?_); go_must (rintro e w5 ⟨rfl, hb5⟩; have hbW5 := hbW4.trans (hb5.mono hbW4.size)))
      | fail)
    go_ret
    exact ⟨rfl, HBB w5 hbW5⟩

end Go.Proofs.Ytkpkhnaflohjpaa

/- rows of numbers that grow -/

namespace Go.Proofs.Ytkpkhnaflohjpaa

open Go.RowKit Go.Shelf Go.Maps
set_option maxRecDepth 100000
set_option maxRecDepth 100000

theorem set_four {W : World} {b : Nat} {x y z u x' y' z' u' : Value} {t : TypeId} (h : W.heap[b]? = some (.cells #[x, y, z, u] t)) :
    ((((W.setCell ⟨b, 0, none⟩ x').setCell ⟨b, 1, none⟩ y').setCell ⟨b, 2, none⟩ z').setCell ⟨b, 3, none⟩ u').heap[b]? = some (.cells #[x', y', z', u'] t) := by
  have h1 : (W.setCell ⟨b, 0, none⟩ x').heap[b]? = some (.cells #[x', y, z, u] t) := heap_setCell_same W _ 0 _ _ _ h
  have h2 : ((W.setCell ⟨b, 0, none⟩ x').setCell ⟨b, 1, none⟩ y').heap[b]? = some (.cells #[x', y', z, u] t) := heap_setCell_same _ _ 1 _ _ _ h1
  have h3 : (((W.setCell ⟨b, 0, none⟩ x').setCell ⟨b, 1, none⟩ y').setCell ⟨b, 2, none⟩ z').heap[b]? = some (.cells #[x', y', z', u] t) := heap_setCell_same _ _ 2 _ _ _ h2
  exact heap_setCell_same _ _ 3 _ _ _ h3

theorem row_low {W : World} {base base' n : Nat} {e : TypeId} {size : Nat} {v : Value} {vs : List Value} (h : W.ownsRow base e size v n vs) (hb : base' ≤ base) : W.ownsRow base' e size v n vs := by
  refine ⟨h.1, ?_⟩
  rcases h.2 with h0 | ⟨g', cap, cur, rfl, hbg, hrest⟩
  · exact .inl h0
  · exact .inr ⟨g', cap, cur, rfl, Nat.le_trans hb hbg, hrest⟩

/-- The numbers 0 .. k - 1. -/
def numsI (k : Nat) : List Int := (List.range k).map fun i : Nat => (i : Int)

theorem numsI_succ (k : Nat) : numsI (k + 1) = numsI k ++ [(k : Int)] := by unfold numsI; rw [List.range_succ, List.map_append]; rfl

theorem numsI_len (k : Nat) : (numsI k).length = k := by unfold numsI; simp

theorem ones_succ (k : Nat) : List.replicate (k + 1) (1 : Int) = List.replicate k 1 ++ [1] := by rw [List.replicate_succ']

end Go.Proofs.Ytkpkhnaflohjpaa

/- lpo: Least. -/

namespace Go.Proofs.Ytkpkhnaflohjpaa

open Go.RowKit Go.Shelf Go.Maps
set_option maxRecDepth 100000

/-- An order by number that is filled. -/
structure LstP (W : World) (bx : Nat) (vP : Value) (lP : List Int) (w : World) : Prop where
  box : w.heap[bx]? = some (.cells #[.bool true, vP, .slice none 0 0, .int .i64 0] 24)
  P : IntsR w W.heap.size vP lP
  kp : KeepsC (· = bx) W w
  lt : bx < W.heap.size

theorem LstP.p {W w w5 : World} {bx : Nat} {vP v5 : Value} {lP : List Int} {x : Int} {o : Obj} (h : LstP W bx vP lP w) (hx : I64 x) (hown : w5.ownsRow W.heap.size 3 1 v5 (lP.length + 1) (lP.map (Value.int .i64) ++ [.int .i64 x])) (hgr : (w.alloc o).grownBy w5 vP.ownBlock) (hat : v5.ownBlock = vP.ownBlock ∨ v5.ownBlock = some (w.alloc o).heap.size) :
    LstP W bx v5 (lP ++ [x]) (w5.setCell ⟨bx, 1, none⟩ v5) ∧ w5.heap[bx]? = some (.cells #[.bool true, vP, .slice none 0 0, .int .i64 0] 24) := by
  have hb : w5.heap[bx]? = some (.cells #[.bool true, vP, .slice none 0 0, .int .i64 0] 24) := by
    have hlt : bx < w.heap.size := (Array.getElem?_eq_some_iff.1 h.box).1
    rw [hgr.block bx (by simp; omega) (fun e => by have := (row_lt h.P.row bx e.symm).1; have := h.lt; omega)]
    exact (Below.heap_alloc w o bx hlt).trans h.box
  have ho := ord_app (o := o) h.P (Below.refl _ _) hx hown hgr hat
  have hset : ∀ g, g ≠ bx → (w5.setCell ⟨bx, 1, none⟩ v5).heap[g]? = w5.heap[g]? := fun g hg => heap_setCell_other _ _ _ _ hg
  refine ⟨⟨?_, ⟨row_keep ho.row.row fun g e => hset g (by have := (row_lt ho.row.row g e).1; have := h.lt; omega), ho.row.i64⟩, ?_, h.lt⟩, hb⟩
  · exact heap_setCell_same w5 _ 1 _ _ _ hb
  · have hk5 : KeepsC (· = bx) W w5 := ⟨ho.gr.os.trans h.kp.os, ho.gr.tape.trans h.kp.tape, ho.gr.output.trans h.kp.output, Nat.le_trans h.kp.size ho.gr.size, fun g hg => (ho.gr.block g (Nat.lt_of_lt_of_le hg.1 h.kp.size) (fun e => by have := (row_lt h.P.row g e.symm).1; omega)).trans (h.kp.block hg.1 hg.2)⟩
    exact keepsC_set1 hk5 _ _

set_option maxHeartbeats 4000000 in
theorem lpoLeast_any (n : Nat) (hn : n ≤ 1000) (w : World) : Calls Try.prog 10 #[.int .i64 (n : Int)] w fun e w' => ∃ vP, e = .returned (.agg #[.bool true, vP, .slice none 0 0, .int .i64 0]) ∧ IntsR w' w.heap.size vP (numsI n) ∧ Below w.heap.size w w' := by
  obtain ⟨q0, q1⟩ := heap2 w (.cells #[.bool false, .slice none 0 0, .slice none 0 0, .int .i64 0] 24) (.cells #[.bool true, .slice none 0 0, .slice none 0 0, .int .i64 0] 24)
  obtain ⟨W, hW⟩ : ∃ W, ((w.alloc (.cells #[.bool false, .slice none 0 0, .slice none 0 0, .int .i64 0] 24)).alloc (.cells #[.bool true, .slice none 0 0, .slice none 0 0, .int .i64 0] 24)) = W := ⟨_, rfl⟩
  have hB : Below w.heap.size w W := by rw [← hW]; exact ((Below.refl _ _).alloc (Nat.le_refl _) _).alloc (by simp) _
  rw [hW] at q0 q1
  have hWz : W.heap.size = w.heap.size + 2 := by rw [← hW]; simp
  obtain ⟨i0, hi, hz0, hz1, hz2⟩ := info_parts info_int
  have hL0 : LstP W (w.heap.size + 1) (.slice none 0 0) [] W := ⟨q1, ⟨⟨by simp, .inl ⟨rfl, rfl⟩⟩, by simp⟩, KeepsC.refl _ _, by omega⟩
  have HL0 := Lib.hid hL0
  have HW := Lib.hid hW
  have Hq0 := Lib.hid q0
  clear hW hL0 q0 q1
  go_enter Try.func10, Try.ntmps10
  go_upto_region 2 with fail
  rw [HW.out]
  go_wp2
  go_loopw [4] (fun i wr => ∃ (k : Nat) (vP : Value), k ≤ n ∧ i = .int .i64 (k : Int) ∧ Hid (LstP W (w.heap.size + 1) vP (numsI k) wr)) (fun i _ => n - (intOf i).toNat)
  case atStart => exact ⟨0, _, Nat.zero_le _, rfl, HL0⟩
  case round =>
    obtain ⟨k, vP, hk, rfl, HL⟩ := hrel
    obtain ⟨c0, c1, c2, c3⟩ := cells_four HL.out.box
    by_cases hkl : k < n
    · obtain ⟨Ap, cp, hvp⟩ := row_slice HL.out.P.row
      rw [numsI_len] at hvp
      subst hvp
      have hrl := row_lt HL.out.P.row
      have hkp := HL.out.kp.size
      have hwr1 : IntKind.i64.wrap ((k : Int) + 1) = (k : Int) + 1 := by rw [IntKind.wrap_i64]; omega
      go_wp2_with (first
        | (at_builtin
           go_must (
           refine wpList_append_own_at _ rfl _ _ 22 rfl W.heap.size 3 i0 (.int .i64 0) 1 8 Try.underlying22 hi hz0 hz1 hz2 rfl (by decide) (.slice Ap k cp) k _ rfl (row_keep (by have := HL.out.P.row; rwa [numsI_len] at this) fun g e => Below.heap_alloc wr _ g (hrl g e).2) ⟨wr.heap.size, 0, none⟩ 1 1 [.int .i64 (k : Int)] rfl rfl (cell_one_new _ _ _) (by simp [Value.oneCell']) (by unfold maxLen; omega) (by omega) (by simp; omega) ?_
           intro v5 w5 hown5 hgr5 _ hat5
           obtain ⟨A5, c5, rfl⟩ := row_slice hown5
           have H5 := Lib.hid (HL.out.p (x := (k : Int)) ⟨by omega, by omega⟩ (by rw [numsI_len]; exact hown5) hgr5 hat5)
           have hfz := frozen_9 H5.out.2 1
           have hc5 := (cells_four H5.out.2).2.1
           clear hown5 hgr5 hat5))
        | fail)
      go_roundw
      case rel => exact ⟨k + 1, _, by omega, by go_num, Lib.hid (by rw [numsI_succ]; exact H5.out.1)⟩
      case measure => simp [intOf]; omega
    · obtain rfl : k = n := by omega
      obtain ⟨Ap, cp, hvp⟩ := row_slice HL.out.P.row
      rw [numsI_len] at hvp
      subst hvp
      have hr0 := (HL.out.kp.block (show w.heap.size < W.heap.size by omega) (show ¬ w.heap.size = w.heap.size + 1 by omega)).trans Hq0.out
      have hfr := frozen_9 hr0
      obtain ⟨r0, r1, r2, r3⟩ := cells_four hr0
      have hset := Lib.hid (fun (x y z u : Value) => set_four (x' := x) (y' := y) (z' := z) (u' := u) hr0)
      have hP := HL.out.P
      have hkk := HL.out.kp
      have hs4 := fun (x y z u : Value) => keepsC_set1 (b := w.heap.size) (keepsC_set1 (keepsC_set1 (keepsC_set1 (KeepsC.refl _ wr) 0 x) 1 y) 2 z) 3 u
      have HR : Hid (∀ x y z u : Value, let W' := ((((wr.setCell ⟨w.heap.size, 0, none⟩ x).setCell ⟨w.heap.size, 1, none⟩ y).setCell ⟨w.heap.size, 2, none⟩ z).setCell ⟨w.heap.size, 3, none⟩ u); IntsR W' w.heap.size (.slice Ap k cp) (numsI k) ∧ Below w.heap.size w W') := Lib.hid fun x y z u => by
        have h4 := hs4 x y z u
        have hw1 := hkk.size
        refine ⟨⟨row_low (row_keep hP.row fun g e => h4.block (row_lt hP.row g e).2 (by have := (row_lt hP.row g e).1; omega)) (by omega), hP.i64⟩, ?_⟩
        exact (hB.trans (hkk.below (n := w.heap.size) (by omega) fun g hg => by omega)).trans (h4.below (by omega) fun g hg => by omega)
      clear hP hkk hs4 hr0
      go_wp2
      have hfin := hset.out (.bool true) (.slice Ap k cp) (.slice none 0 0) (.int .i64 0)
      have hrr := Lib.hid (HR.out (.bool true) (.slice Ap k cp) (.slice none 0 0) (.int .i64 0))
      obtain ⟨Y, hY⟩ : ∃ Y, ((((wr.setCell ⟨w.heap.size, 0, none⟩ (.bool true)).setCell ⟨w.heap.size, 1, none⟩ (.slice Ap k cp)).setCell ⟨w.heap.size, 2, none⟩ (.slice none 0 0)).setCell ⟨w.heap.size, 3, none⟩ (.int .i64 0)) = Y := ⟨_, rfl⟩
      simp only [hY] at hrr
      rw [hY] at hfin ⊢
      obtain ⟨f0, f1, f2, f3⟩ := cells_four hfin
      refine bodyPost_ret (v := .agg #[.bool true, .slice Ap k cp, .slice none 0 0, .int .i64 0]) (by simp [results, Try.results10, go_sem, f0, f1, f2, f3]) rfl ⟨_, rfl, ?_, ?_⟩
      · exact hrr.out.1
      · exact hrr.out.2

end Go.Proofs.Ytkpkhnaflohjpaa

/- what wakes share: numbers in memory, the facts' ends -/

namespace Go.Proofs.Ytkpkhnaflohjpaa

open Go.RowKit Go.Shelf Go.Maps
set_option maxRecDepth 100000
set_option maxRecDepth 100000

theorem IntsR.ints {w : World} {base : Nat} {A : Option Addr} {n c : Nat} {l : List Int} (h : IntsR w base (.slice A n c) l) (hl : l.length ≤ 9223372036854775807) : Ints w w.heap.size A l := by
  refine ⟨hl, h.i64, fun hn => ?_⟩
  obtain ⟨x, hx⟩ : ∃ x, l[0]? = some x := ⟨_, List.getElem?_eq_getElem hn⟩
  obtain ⟨g, c', hv, hg, _⟩ := h.get hx
  injection hv with hA
  refine ⟨g, 0, hA, hg, fun i y hy => ?_⟩
  obtain ⟨g2, c2, hv2, _, hc⟩ := h.get hy
  injection hv2 with hA2
  rw [hA] at hA2
  injection hA2 with hA2
  injection hA2 with hA2
  rw [hA2, Nat.zero_add]
  exact hc

/-- The facts' ends: what the last operation leaves is all that is wanted. -/
theorem finF_last {P : Program} {Q : Act → World → Prop} {w : World} {d : Nat} {v : Value} : ∀ (l : List Oper) (pl : List Fct) (a : Act), l.length = pl.length → d < a.tmps.size → (∃ o, l.getLast? = some o ∧ o.dst = some d) → pl.getLast? = some (Fct.eq v) → (∀ a' : Act, a'.defers = a.defers → a'.tmps.size = a.tmps.size → a'.eval (.tmp d) = v → Q a' w) → finF Q w l pl a
  | [], _, _, _, _, ⟨_, h, _⟩, _, _ => by simp at h
  | _ :: _, [], _, h, _, _, _, _ => by simp at h
  | [o], [p], a, _, hd, ⟨o', h1, h2⟩, h3, h => by
    simp at h1 h3
    subst h1 h3
    unfold finF
    rw [h2]
    intro u hu
    have hu : u = v := hu
    subst hu
    unfold finF
    exact h _ rfl (by simp [Act.put]) (by simp [Act.put, Act.eval, hd])
  | [o], _ :: _ :: _, a, h0, _, _, _, _ => by simp at h0
  | _ :: _ :: _, [_], a, h0, _, _, _, _ => by simp at h0
  | o :: o2 :: l, p :: p2 :: pl, a, h0, hd, h1, h3, h => by
    have hg : ∀ a' : Act, a'.defers = a.defers → a'.tmps.size = a.tmps.size → finF Q w (o2 :: l) (p2 :: pl) a' := fun a' e1 e2 =>
      finF_last (P := P) (o2 :: l) (p2 :: pl) a' (by simpa using h0) (by rw [e2]; exact hd) (by simpa using h1) (by simpa using h3) fun a2 e3 e4 => h a2 (e3.trans e1) (e4.trans e2)
    unfold finF
    cases o.dst with
    | none => exact hg a rfl rfl
    | some d' => intro u _; exact hg _ rfl (by simp [Act.put])

/-- An order that lies in memory, as a value. -/
def ordF (o : Odr) (P : Option Addr) (pc : Nat) (Q : Option Addr) (qc : Nat) : Fct := Fct.eq (.agg #[.bool o.lpo, .slice P o.prec.length pc, .slice Q o.wts.length qc, .int .i64 o.var])

theorem i64s (n : Int) (h1 : -100 ≤ n) (h2 : n ≤ 100) : I64 n := ⟨by omega, by omega⟩

end Go.Proofs.Ytkpkhnaflohjpaa

/- lpo: wakes (of its laws). -/

namespace Go.Proofs.Ytkpkhnaflohjpaa

open Go.RowKit Go.Shelf Go.Maps
set_option maxRecDepth 100000

def ord9 : Odr := ⟨true, [0, 1, 2, 3, 4], [], 0⟩

def tY : Tm := .node (-2) []

theorem wak91 : cmpP [0, 1, 2, 3, 4] (.node 4 [tX]) (.node 3 [tX, tX]) = 3 := by decide +kernel

theorem wak92 : cmpP [0, 1, 2, 3, 4] (.node 3 [tX, tA]) tX = 3 := by decide +kernel

theorem wak93 : cmpP [0, 1, 2, 3, 4] (.node 3 [tX, tY]) (.node 3 [tY, tX]) = 0 := by decide +kernel

theorem wak94 : cmpP [0, 1, 2, 3, 4] (.node 4 [tA]) (.node 3 [tB, tB]) = 3 := by decide +kernel

theorem wak95 : cmpP [0, 1, 2, 3, 4] (.node 3 [tA, tB]) (.node 3 [tB, tA]) = 1 := by decide +kernel

theorem wak96 : cmpP [0, 1, 2, 3, 4] tX tY = 0 := by decide +kernel

section

variable {Fs : List Fct} {a0 : Act} {W : World} {dst : Option Tmp} {ty : TypeId} {pos : String} {after : Array Edge} {guard : Option (Nat × Bool)}

theorem st_of9 {f : Int} {s j : Nat} {ts : List Tm} (hg : ∀ j want, guard = some (j, want) → ∀ v w, (Fs.getD j Fct.any).p v w → v = .bool want) (h64 : I64 f) (hF : Fs.getD j Fct.any = slF ts) :
    stepF Try.prog Fs a0 W ⟨dst, .call ⟨.value (.func 11), #[.const (.int .i64 f), .tmp s], #[3, 25]⟩, ty, pos, after, guard⟩ [(s, some j)] (tmF (.node f ts)) := by
  refine .inl ⟨hg, fun a w hb hl => ?_⟩
  have h0 := hl.1
  rw [hF] at h0
  obtain ⟨A, hv, hA⟩ := h0
  have h1 := ev_get hv
  simp [go_sem, leaves, h1]
  refine (lpoOf_eq f ts.length ts.length A w).mono fun e w' h => ?_
  obtain ⟨he, hw⟩ := h
  subst hw
  have hbl : Below w.heap.size w (w.alloc (.cells #[.int .i64 f, .slice A ts.length ts.length] 27)) := (Below.refl _ _).alloc (Nat.le_refl _) _
  exact ⟨_, he, hbl, h64, A, _, rfl, hA.on hbl⟩

theorem st_cmp9 {o : Odr} {P Q : Option Addr} {pc qc : Nat} {s0 s1 s2 j0 j1 j2 : Nat} {t u : Tm} {k : Int} (hg : ∀ j want, guard = some (j, want) → ∀ v w, (Fs.getD j Fct.any).p v w → v = .bool want) (hM : OdrM W W.heap.size o P Q) (hrk : o.prec.length ≤ 140737488351232) (hn : t.size + u.size ≤ 1073741824) (hk : cmpP o.prec t u = k)
    (hF0 : Fs.getD j0 Fct.any = Fct.eq (.agg #[.bool o.lpo, .slice P o.prec.length pc, .slice Q o.wts.length qc, .int .i64 o.var])) (hF1 : Fs.getD j1 Fct.any = tmF t) (hF2 : Fs.getD j2 Fct.any = tmF u) :
    stepF Try.prog Fs a0 W ⟨dst, .call ⟨.value (.func 7), #[.tmp s0, .tmp s1, .tmp s2], #[24, 27, 27]⟩, ty, pos, after, guard⟩ [(s0, some j0), (s1, some j1), (s2, some j2)] (Fct.eq (.int .i64 k)) := by
  refine .inl ⟨hg, fun a w hb hl => ?_⟩
  obtain ⟨h0, h1, h2, _⟩ := hl
  rw [hF0] at h0
  rw [hF1] at h1
  rw [hF2] at h2
  obtain ⟨h64, A, c, hv, hA⟩ := h1
  obtain ⟨g64, A2, c2, hv2, hA2⟩ := h2
  have e0 := ev_get h0
  have e1 := ev_get hv
  have e2 := ev_get hv2
  simp [go_sem, leaves, e0, e1, e2]
  refine (lpoCmp_any o t u P Q A A2 pc qc c c2 w (hM.on hb) hrk h64 g64 hn hA hA2).mono fun e w' h => ?_
  exact ⟨_, h.1, h.2, by rw [hk]; rfl⟩

end

theorem lpoLeast5 (w : World) : Calls Try.prog 10 #[.int .i64 5] w fun e w' => ∃ P pc, e = .returned (.agg #[.bool true, .slice P 5 pc, .slice none 0 0, .int .i64 0]) ∧ IntsR w' w.heap.size (.slice P 5 pc) [0, 1, 2, 3, 4] ∧ Below w.heap.size w w' := by
  refine (lpoLeast_any 5 (by omega) w).mono ?_
  rintro e w1 ⟨vP, rfl, hP, hb1⟩
  obtain ⟨P, pc, rfl⟩ := row_slice hP.row
  exact ⟨P, pc, rfl, hP, hb1⟩

set_option maxHeartbeats 2000000 in
theorem lpoWakes_any (w : World) : Calls Try.prog 5 #[] w fun e w' => e = .returned (.bool true) ∧ Below w.heap.size w w' := by
  have HL1 := Lib.hid lpoLeast5
  go_enter Try.func5, Try.ntmps5
  go_upto_region 3 with (first
    | (go_at_call 10; (with_reducible refine (HL1.out _).mono ?_); go_must (rintro e w1 ⟨P, pc, rfl, hP, hb1⟩; clear HL1))
    | (go_at_call 11; (with_reducible refine (lpoOf_eq _ _ _ _ _).mono ?_); go_must (rintro e _ ⟨rfl, rfl⟩))
    | fail)
  obtain ⟨W0, hW0⟩ : ∃ W0, (((((w1.alloc (.cells #[.bool true, .slice P 5 pc, .slice none 0 0, .int .i64 0] 24)).alloc (.cells #[.int .i64 (-1), .slice none 0 0] 27)).alloc (.cells #[.int .i64 (-2), .slice none 0 0] 27)).alloc (.cells #[.int .i64 1, .slice none 0 0] 27)).alloc (.cells #[.int .i64 2, .slice none 0 0] 27)) = W0 := ⟨_, rfl⟩
  have hB0 : Below w1.heap.size w1 W0 := by rw [← hW0]; exact below5 _ _ _ _ _ _
  obtain ⟨j1, _, _, _, _⟩ := heap5 w1 (.cells #[.bool true, .slice P 5 pc, .slice none 0 0, .int .i64 0] 24) (.cells #[.int .i64 (-1), .slice none 0 0] 27) (.cells #[.int .i64 (-2), .slice none 0 0] 27) (.cells #[.int .i64 1, .slice none 0 0] 27) (.cells #[.int .i64 2, .slice none 0 0] 27)
  rw [hW0] at j1
  rw [hW0]
  have hz0 : W0.heap.size = w1.heap.size + 5 := by rw [← hW0]; simp
  obtain ⟨W1, hW1⟩ : ∃ W1, ((((W0.alloc (.cells #[.int .i64 (-1), .slice none 0 0] 27)).alloc (.cells #[.int .i64 (-2), .slice none 0 0] 27)).alloc (.cells #[.int .i64 1, .slice none 0 0] 27)).alloc (.cells #[.int .i64 2, .slice none 0 0] 27)) = W1 := ⟨_, rfl⟩
  obtain ⟨k2, k3, k4, k5⟩ := heap4r W0 (.cells #[.int .i64 (-1), .slice none 0 0] 27) (.cells #[.int .i64 (-2), .slice none 0 0] 27) (.cells #[.int .i64 1, .slice none 0 0] 27) (.cells #[.int .i64 2, .slice none 0 0] 27)
  have hB01 : Below W0.heap.size W0 W1 := by rw [← hW1]; exact ((((Below.refl _ _).alloc (Nat.le_refl _) _).alloc (by simp) _).alloc (by simp; omega) _).alloc (by simp; omega) _
  rw [hW1] at k2 k3 k4 k5 ⊢
  rw [hz0] at k2 k3 k4 k5
  have k1 := (hB01.block _ (show w1.heap.size < W0.heap.size by omega)).trans j1
  have hB1 : Below w1.heap.size w1 W1 := hB0.trans (hB01.mono (by omega))
  have hBf : Below w.heap.size w W1 := hb1.trans (hB1.mono hb1.size)
  have hM0 : OdrM W1 W1.heap.size ord9 P none := ⟨(hP.on hB1).ints (by decide), ⟨by decide, by simp [ord9], fun h => by simp [ord9] at h⟩, i64s _ (by decide) (by decide)⟩
  have HF := Lib.hid (And.intro k1 (And.intro k2 (And.intro k3 (And.intro k4 (And.intro k5 hM0)))))
  clear hW1 hP hb1 hB1 k1 k2 k3 k4 k5 hM0 hW0 hB0 hB01 j1 hz0
  obtain ⟨h1, h2, h3, h4, h5, hM0⟩ := HF.out
  have hM := hM0.on (Below.refl _ _).drew
  refine wp_region_facts 76 [[(1, none)], [(2, none)], [(12, some 1)], [(13, some 2)], [(2, none)], [(2, none)], [(15, some 4), (16, some 5)], [(17, some 6)], [(11, some 0), (14, some 3), (18, some 7)], [(19, some 8)], [(20, some 9)], [(1, none)], [(2, none)], [(4, none)], [(23, some 12), (24, some 13)], [(25, some 14)], [(2, none)], [(22, some 11), (26, some 15), (27, some 16)], [(28, some 17)], [(21, some 10), (29, some 18)], [(30, some 19)], [(1, none)], [(2, none)], [(3, none)], [(33, some 22), (34, some 23)], [(35, some 24)], [(3, none)], [(2, none)], [(37, some 26), (38, some 27)], [(39, some 28)], [(32, some 21), (36, some 25), (40, some 29)], [(41, some 30)], [(31, some 20), (42, some 31)], [(43, some 32)], [(1, none)], [(4, none)], [(46, some 35)], [(47, some 36)], [(5, none)], [(5, none)], [(49, some 38), (50, some 39)], [(51, some 40)], [(45, some 34), (48, some 37), (52, some 41)], [(53, some 42)], [(44, some 33), (54, some 43)], [(55, some 44)], [(1, none)], [(4, none)], [(5, none)], [(58, some 47), (59, some 48)], [(60, some 49)], [(5, none)], [(4, none)], [(62, some 51), (63, some 52)], [(64, some 53)], [(57, some 46), (61, some 50), (65, some 54)], [(66, some 55)], [(56, some 45), (67, some 56)], [(68, some 57)], [(1, none)], [(2, none)], [(3, none)], [(70, some 59), (71, some 60), (72, some 61)], [(73, some 62)], [(69, some 58), (74, some 63)], [(75, some 64)]]
    [ordF ord9 P pc none 0, tmF tX, slF [tX], tmF (.node 4 [tX]), tmF tX, tmF tX, slF [tX, tX], tmF (.node 3 [tX, tX]), Fct.eq (.int .i64 3), Fct.eq (.bool true), Fct.eq (.bool true), ordF ord9 P pc none 0, tmF tX, tmF tA, slF [tX, tA], tmF (.node 3 [tX, tA]), tmF tX, Fct.eq (.int .i64 3), Fct.eq (.bool true), Fct.eq (.bool true), Fct.eq (.bool true), ordF ord9 P pc none 0, tmF tX, tmF tY, slF [tX, tY], tmF (.node 3 [tX, tY]), tmF tY, tmF tX, slF [tY, tX], tmF (.node 3 [tY, tX]), Fct.eq (.int .i64 0), Fct.eq (.bool true), Fct.eq (.bool true), Fct.eq (.bool true), ordF ord9 P pc none 0, tmF tA, slF [tA], tmF (.node 4 [tA]), tmF tB, tmF tB, slF [tB, tB], tmF (.node 3 [tB, tB]), Fct.eq (.int .i64 3), Fct.eq (.bool true), Fct.eq (.bool true), Fct.eq (.bool true), ordF ord9 P pc none 0, tmF tA, tmF tB, slF [tA, tB], tmF (.node 3 [tA, tB]), tmF tB, tmF tA, slF [tB, tA], tmF (.node 3 [tB, tA]), Fct.eq (.int .i64 1), Fct.eq (.bool true), Fct.eq (.bool true), Fct.eq (.bool true), ordF ord9 P pc none 0, tmF tX, tmF tY, Fct.eq (.int .i64 0), Fct.eq (.bool true), Fct.eq (.bool true), Fct.eq (.bool true)] (by kernel_rfl) (by decide +kernel) (by kernel_rfl) ?_ ?_
  · exact ⟨st_load4 gd_none rfl h1, st_term gd_none rfl h2 (i64s _ (by decide) (by decide)) (.nil _ _), st_bs1 gd_none rfl, st_of9 gd_none (i64s _ (by decide) (by decide)) rfl, st_term gd_none rfl h2 (i64s _ (by decide) (by decide)) (.nil _ _), st_term gd_none rfl h2 (i64s _ (by decide) (by decide)) (.nil _ _), st_bs2 gd_none rfl rfl, st_of9 gd_none (i64s _ (by decide) (by decide)) rfl, st_cmp9 gd_none hM (by decide) (by decide +kernel) wak91 rfl rfl rfl, st_eq gd_none rfl, st_move gd_none rfl, st_load4 (gd_true rfl) rfl h1, st_term (gd_true rfl) rfl h2 (i64s _ (by decide) (by decide)) (.nil _ _), st_term (gd_true rfl) rfl h4 (i64s _ (by decide) (by decide)) (.nil _ _), st_bs2 (gd_true rfl) rfl rfl, st_of9 (gd_true rfl) (i64s _ (by decide) (by decide)) rfl, st_term (gd_true rfl) rfl h2 (i64s _ (by decide) (by decide)) (.nil _ _), st_cmp9 (gd_true rfl) hM (by decide) (by decide +kernel) wak92 rfl rfl rfl, st_eq (gd_true rfl) rfl, st_pick gd_none rfl rfl, st_move gd_none rfl, st_load4 (gd_true rfl) rfl h1, st_term (gd_true rfl) rfl h2 (i64s _ (by decide) (by decide)) (.nil _ _), st_term (gd_true rfl) rfl h3 (i64s _ (by decide) (by decide)) (.nil _ _), st_bs2 (gd_true rfl) rfl rfl, st_of9 (gd_true rfl) (i64s _ (by decide) (by decide)) rfl, st_term (gd_true rfl) rfl h3 (i64s _ (by decide) (by decide)) (.nil _ _), st_term (gd_true rfl) rfl h2 (i64s _ (by decide) (by decide)) (.nil _ _), st_bs2 (gd_true rfl) rfl rfl, st_of9 (gd_true rfl) (i64s _ (by decide) (by decide)) rfl, st_cmp9 (gd_true rfl) hM (by decide) (by decide +kernel) wak93 rfl rfl rfl, st_eq (gd_true rfl) rfl, st_pick gd_none rfl rfl, st_move gd_none rfl, st_load4 (gd_true rfl) rfl h1, st_term (gd_true rfl) rfl h4 (i64s _ (by decide) (by decide)) (.nil _ _), st_bs1 (gd_true rfl) rfl, st_of9 (gd_true rfl) (i64s _ (by decide) (by decide)) rfl, st_term (gd_true rfl) rfl h5 (i64s _ (by decide) (by decide)) (.nil _ _), st_term (gd_true rfl) rfl h5 (i64s _ (by decide) (by decide)) (.nil _ _), st_bs2 (gd_true rfl) rfl rfl, st_of9 (gd_true rfl) (i64s _ (by decide) (by decide)) rfl, st_cmp9 (gd_true rfl) hM (by decide) (by decide +kernel) wak94 rfl rfl rfl, st_eq (gd_true rfl) rfl, st_pick gd_none rfl rfl, st_move gd_none rfl, st_load4 (gd_true rfl) rfl h1, st_term (gd_true rfl) rfl h4 (i64s _ (by decide) (by decide)) (.nil _ _), st_term (gd_true rfl) rfl h5 (i64s _ (by decide) (by decide)) (.nil _ _), st_bs2 (gd_true rfl) rfl rfl, st_of9 (gd_true rfl) (i64s _ (by decide) (by decide)) rfl, st_term (gd_true rfl) rfl h5 (i64s _ (by decide) (by decide)) (.nil _ _), st_term (gd_true rfl) rfl h4 (i64s _ (by decide) (by decide)) (.nil _ _), st_bs2 (gd_true rfl) rfl rfl, st_of9 (gd_true rfl) (i64s _ (by decide) (by decide)) rfl, st_cmp9 (gd_true rfl) hM (by decide) (by decide +kernel) wak95 rfl rfl rfl, st_eq (gd_true rfl) rfl, st_pick gd_none rfl rfl, st_move gd_none rfl, st_load4 (gd_true rfl) rfl h1, st_term (gd_true rfl) rfl h2 (i64s _ (by decide) (by decide)) (.nil _ _), st_term (gd_true rfl) rfl h3 (i64s _ (by decide) (by decide)) (.nil _ _), st_cmp9 (gd_true rfl) hM (by decide) (by decide +kernel) wak96 rfl rfl rfl, st_eq (gd_true rfl) rfl, st_pick gd_none rfl rfl, st_assign gd_none rfl, trivial⟩
  · intro w' hb'
    refine finF_last (P := Try.prog) (d := 0) (v := .bool true) _ _ _ (by kernel_rfl) (Nat.lt_of_lt_of_eq (show 0 < 76 by decide) (by kernel_rfl)) ⟨_, rfl, rfl⟩ rfl ?_
    intro a' hd ha he
    have HFw := Lib.hid (hBf.trans (((Below.refl _ _).drew.trans (hb'.mono (Nat.le_refl _))).mono hBf.size))
    have hd2 : a'.defers = [] := hd
    clear hd ha hb' hBf h1 h2 h3 h4 h5 hM hM0 HF
    go_wp2
    have he2 := ev_get he
    exact bodyPost_ret (v := .bool true) (by simp [results, Try.results5, go_sem, he2]) hd2 ⟨rfl, HFw.out⟩

end Go.Proofs.Ytkpkhnaflohjpaa

/- An order, and terms whose rows have room for what they hold, that are arguments. -/

namespace Go.Proofs.Ytkpkhnaflohjpaa

open Go.ChangeShapes Go.WideShapes Go.ChangeAt Go.RowKit
set_option maxRecDepth 20000

section

variable {H : Type} {enc : TypeId × Value → H} {W : World} {base : Nat} {held : Bool}

theorem trodk_term : ∀ (n : Nat) (cs : List Value) (x : DataW H × List MemPlace), DataW.trod enc Try.prog W base (fun _ => true) held n 27 cs = some x →
    ∃ (t : Tm) (A : Option Addr) (c : Nat), cs = [.int .i64 t.fn, .slice A t.args.length c] ∧ I64 t.fn ∧ ArgsK W (· < W.heap.size) A c t.args ∧ t.size ≤ Rows.uptoBulk x.1 := by
  intro n
  induction n using Nat.strongRecOn with
  | ind n ih =>
    intro cs x h
    obtain ⟨xs, n', rfl, hx, hlen, hxs, hf⟩ := DataW.trod_struct Try.underlying27 h
    rw [cellsTerm] at hlen
    match cs, hlen with
    | [c0, c1], _ =>
      have hx2 : xs.length = 2 := by rw [hxs]; rfl
      match xs, hx2 with
      | [x0, x1], _ =>
        have g0 := hf 0 _ rfl
        have g1 := hf 1 _ rfl
        simp [cellsInt] at g0
        simp [cellsTerms] at g1
        obtain ⟨f, hfv, ef, hw⟩ := DataW.trod_int Try.underlying3 g0
        injection hfv with hfv
        subst hfv
        have hf64 : I64 f := by
          have := hw
          simp [Lit.wf, IntKind.min, IntKind.max, IntKind.signed, IntKind.bits] at this
          exact this
        rcases DataW.trod_slice Try.underlying25 g1 with ⟨hv, e1⟩ | ⟨a, len, cap, elems, rest, m, hm, hv, e1, _, hl, hmax, hlenE, hel, _, _⟩
        · injection hv with hv
          subst hv
          refine ⟨.node f [], none, 0, rfl, hf64, .nil none 0, ?_⟩
          subst hx
          simp [ef, e1, Tm.size, sizes, Rows.uptoBulk, Rows.uptoBulkAll]
        · injection hv with hv
          subst hv
          have each : ∀ i, i < len → ∃ q : Tm × Option Addr × Nat × DataW H, I64 q.1.fn ∧ W.cell? (a.add (i * 2)) = some (.int .i64 q.1.fn) ∧ W.cell? ((a.add (i * 2)).add 1) = some (.slice q.2.1 q.1.args.length q.2.2.1) ∧ ArgsK W (· < W.heap.size) q.2.1 q.2.2.1 q.1.args ∧ q.1.size ≤ Rows.uptoBulk q.2.2.2 ∧ (elems.map (·.1))[i]? = some q.2.2.2 := by
            intro i hi
            have h1 := hel i hi
            rw [cellsTerm] at h1
            rw [List.getElem?_eq_getElem (by omega)] at h1
            cases hc : W.cells? base (a.add (i * 2)) 2 with
            | none => rw [hc] at h1; cases h1
            | some cs' =>
              rw [hc] at h1
              simp only [Option.bind_some] at h1
              obtain ⟨t, A, c, rfl, ht64, hA, hb⟩ := ih m (by omega) cs' _ h1
              obtain ⟨_, _, hat⟩ := World.cells?_some hc
              refine ⟨(t, A, c, (elems[i]'(by omega)).1), ht64, ?_, hat 1 (by omega), hA, hb, by rw [List.getElem?_map, List.getElem?_eq_getElem (show i < elems.length by omega)]; rfl⟩
              have := hat 0 (by omega)
              simpa [Addr.add] using this
          haveI : Inhabited (Tm × Option Addr × Nat × DataW H) := ⟨(.node 0 [], none, 0, .nil)⟩
          obtain ⟨q, hq⟩ := Go.Deep.choose_lt each
          have hget : ∀ (i : Nat) (t : Tm), ((List.range len).map fun i => (q i).1)[i]? = some t → i < len ∧ t = (q i).1 := by
            intro i t e
            have hi : i < len := by have := (List.getElem?_eq_some_iff.1 e).1; simpa using this
            rw [List.getElem?_map, List.getElem?_range hi] at e
            simp at e
            exact ⟨hi, e.symm⟩
          refine ⟨.node f ((List.range len).map fun i => (q i).1), some a, cap, by simp [Tm.fn, Tm.args], hf64, ?_, ?_⟩
          · rcases Nat.eq_zero_or_pos len with h0 | h0
            · subst h0; exact .nil _ _
            · have c00 := (hq 0 h0).2.1
              simp only [Nat.zero_mul, Addr.add, if_true] at c00
              obtain ⟨blk, off, spot⟩ := a
              obtain rfl : spot = none := cell_spot c00
              have hblk : blk < W.heap.size := by
                unfold World.cell? at c00
                rcases Nat.lt_or_ge blk W.heap.size with h1 | h1
                · exact h1
                · simp [Array.getElem?_eq_none h1] at c00
              simp only [Tm.args]
              refine .row blk off cap _ (fun i => (q i).2.1) (fun i => (q i).2.2.1) (by simpa using hl) hblk (by unfold maxLen at hmax; simp; omega) (fun i t e => ?_) (fun i t e => ?_) (fun i t e => ?_) (fun i t e => ?_)
              · obtain ⟨hi, rfl⟩ := hget i t e
                exact (hq i hi).1
              · obtain ⟨hi, rfl⟩ := hget i t e
                have := (hq i hi).2.1
                rwa [Addr.add_lit] at this
              · obtain ⟨hi, rfl⟩ := hget i t e
                have := (hq i hi).2.2.1
                rwa [Addr.add_lit, Addr.add_lit] at this
              · obtain ⟨hi, rfl⟩ := hget i t e
                exact (hq i hi).2.2.2.1
          · subst hx
            have hb : sizes ((List.range len).map fun i => (q i).1) ≤ Rows.uptoBulkAll (elems.map (·.1)) := by
              refine bulk_all _ _ (by simp [hlenE]) fun i t d e1 e2 => ?_
              obtain ⟨hi, rfl⟩ := hget i t e1
              have h5 := (hq i hi).2.2.2.2
              rw [h5.2] at e2
              cases e2
              exact h5.1
            simp only [ef, e1, Tm.size, List.map_cons, List.map_nil, Rows.uptoBulk, Rows.uptoBulkAll]
            omega

/-- A term that is an argument. -/
theorem openk_term {r : Reach} {b0 : Nat} {v : Value} {d : DataW H} {ps : List MemPlace} (hv : Value.okWide Try.prog W r b0 27 v) (h : DataW.Trod enc Try.prog W base (fun _ => true) held 27 v d ps) :
    ∃ (t : Tm) (A : Option Addr) (c : Nat), v = .agg #[.int .i64 t.fn, .slice A t.args.length c] ∧ I64 t.fn ∧ ArgsK W (· < W.heap.size) A c t.args ∧ t.size ≤ Rows.uptoBulk d := by
  obtain ⟨cs, rfl, _⟩ := okWide_struct Try.underlying27 hv
  obtain ⟨fuel, hf⟩ := h
  obtain ⟨t, A, c, hcs, h1, h2, h3⟩ := trodk_term _ _ _ hf
  refine ⟨t, A, c, ?_, h1, h2, h3⟩
  have hcs' : cs.toList = [.int .i64 t.fn, .slice A t.args.length c] := hcs
  rw [show cs = #[.int .i64 t.fn, .slice A t.args.length c] from Array.toList_inj.1 (by rw [hcs'])]

theorem cellsInts1 : Try.prog.cellsOf 22 = 1 := by kernel_rfl

theorem cellsBool2 : Try.prog.cellsOf 4 = 1 := by kernel_rfl

theorem cellsOrder : Try.prog.cellsOf 24 = 4 := by kernel_rfl

theorem trod_ints1 {n : Nat} {c0 : Value} {x : DataW H × List MemPlace} (hf : DataW.trod enc Try.prog W base (fun _ => true) held n 22 [c0] = some x) :
    ∃ (p : List Int) (A : Option Addr) (c : Nat), c0 = .slice A p.length c ∧ p.length ≤ c ∧ Ints W W.heap.size A p := by
  rcases open_ints Try.underlying22 Try.underlying3 cellsInt hf with ⟨hcs, _⟩ | ⟨ad, len, cap, zs, hcs, _, hn, hmax, hzl, _, hcell, hwf⟩
  · injection hcs with hcs _
    exact ⟨[], none, 0, hcs, Nat.le_refl _, ⟨by simp, by simp, fun h => by simp at h⟩⟩
  · injection hcs with hcs _
    subst hcs
    simp only [if_true] at hzl
    have hl : (zs.take len).length = len := by rw [List.length_take]; omega
    refine ⟨zs.take len, some ad, cap, by rw [hl], by omega, ⟨by unfold maxLen at hmax; omega, fun x hx => ?_, fun hpos => ?_⟩⟩
    · have := hwf x (List.mem_of_mem_take hx)
      simp [Lit.wf, IntKind.min, IntKind.max, IntKind.signed, IntKind.bits] at this
      exact this
    · have c0 := hcell 0 (by omega)
      obtain ⟨blk, off, spot⟩ := ad
      simp only [Addr.add, if_true] at c0
      obtain rfl : spot = none := cell_spot c0
      refine ⟨blk, off, rfl, World.block_lt_of_cell? W _ c0, fun i x hi => ?_⟩
      have hil := (List.getElem?_eq_some_iff.1 hi).1
      have h1 := hcell i (by omega)
      rw [Addr.add_lit] at h1
      rw [h1]
      rw [List.getElem?_take] at hi
      split at hi
      · rw [List.getD_eq_getElem?_getD, hi]; rfl
      · cases hi

theorem open_order {r : Reach} {b0 : Nat} {v : Value} {d : DataW H} {ps : List MemPlace} (hv : Value.okWide Try.prog W r b0 24 v) (h : DataW.Trod enc Try.prog W base (fun _ => true) held 24 v d ps) :
    ∃ (o : Odr) (P Q : Option Addr) (pc qc : Nat), v = .agg #[.bool o.lpo, .slice P o.prec.length pc, .slice Q o.wts.length qc, .int .i64 o.var] ∧ OdrM W W.heap.size o P Q ∧ o.prec.length ≤ pc ∧ o.wts.length ≤ qc := by
  obtain ⟨cs, rfl, _⟩ := okWide_struct Try.underlying24 hv
  obtain ⟨fuel, hf⟩ := h
  have hf' : DataW.trod enc Try.prog W base (fun _ => true) held fuel 24 cs.toList = some (d, ps) := hf
  obtain ⟨xs, n', _, hx, hlen, hxs, hg⟩ := DataW.trod_struct Try.underlying24 hf'
  rw [cellsOrder] at hlen
  obtain ⟨l, hl⟩ : ∃ l, cs.toList = l := ⟨_, rfl⟩
  rw [hl] at hlen hg
  match l, hlen, hl with
  | [c0, c1, c2, c3], _, hl =>
    have hx2 : xs.length = 4 := by rw [hxs]; rfl
    match xs, hx2 with
    | [x0, x1, x2, x3], _ =>
      have g0 := hg 0 _ rfl
      have g1 := hg 1 _ rfl
      have g2 := hg 2 _ rfl
      have g3 := hg 3 _ rfl
      simp [cellsBool2] at g0
      simp [cellsInts1] at g1
      simp [cellsInts1] at g2
      simp [cellsInt] at g3
      obtain ⟨b, hbv, _⟩ := DataW.trod_bool Try.underlying4 g0
      injection hbv with hbv
      subst hbv
      obtain ⟨p, P, pc, rfl, h1, h2⟩ := trod_ints1 g1
      obtain ⟨q, Q, qc, rfl, h3, h4⟩ := trod_ints1 g2
      obtain ⟨f, hfv, _, hw⟩ := DataW.trod_int Try.underlying3 g3
      injection hfv with hfv
      subst hfv
      have hf64 : I64 f := by
        have := hw
        simp [Lit.wf, IntKind.min, IntKind.max, IntKind.signed, IntKind.bits] at this
        exact this
      refine ⟨⟨b, p, q, f⟩, P, Q, pc, qc, ?_, ⟨h2, h4, hf64⟩, h1, h3⟩
      rw [show cs = #[.bool b, .slice P p.length pc, .slice Q q.length qc, .int .i64 f] from Array.toList_inj.1 (by rw [hl])]

end

end Go.Proofs.Ytkpkhnaflohjpaa

/- A signature that is an argument: its length is bounded by what the arguments hold together. -/

namespace Go.Proofs.Ytkpkhnaflohjpaa

open Go.ChangeShapes Go.WideShapes Go.ChangeAt Go.RowKit
set_option maxRecDepth 20000

theorem bulk_pos {H : Type} (d : DataW H) : 1 ≤ Rows.uptoBulk d := by
  cases d with
  | lit l => cases l <;> simp [Rows.uptoBulk]
  | _ => simp [Rows.uptoBulk]

theorem bulk_length {H : Type} : ∀ ds : List (DataW H), ds.length ≤ Rows.uptoBulkAll ds
  | [] => by simp
  | d :: ds => by
    have h1 := bulk_pos d
    have h2 := bulk_length ds
    simp only [Rows.uptoBulkAll, List.length_cons]; omega

theorem sig_bulk {H : Type} {d : DataW H} {len : Nat} (hl : len = 0 ∨ ∃ elems spare, d = .agg [.slice elems spare] ∧ elems.length = len) : len ≤ Rows.uptoBulk d := by
  rcases hl with rfl | ⟨elems, spare, rfl, rfl⟩
  · omega
  · have := bulk_length elems
    simp only [Rows.uptoBulk, Rows.uptoBulkAll]; omega

theorem trodAll_five {H : Type} {enc : TypeId × Value → H} {P : Program} {w : World} {base : Nat} {spare : Nat → Bool} {held : Bool} {t0 t1 t2 t3 t4 : TypeId} {args : Array Value} {ds : List (DataW H)} {ps : List MemPlace} (h : DataW.TrodAll enc P w base spare held [t0, t1, t2, t3, t4] args.toList ds ps) :
    ∃ v0 v1 v2 v3 v4 d0 d1 d2 d3 d4 p0 p1 p2 p3 p4, args = #[v0, v1, v2, v3, v4] ∧ ds = [d0, d1, d2, d3, d4] ∧ ps = p0 ++ (p1 ++ (p2 ++ (p3 ++ (p4)))) ∧ DataW.Trod enc P w base spare held t0 v0 d0 p0 ∧ DataW.Trod enc P w base spare held t1 v1 d1 p1 ∧ DataW.Trod enc P w base spare held t2 v2 d2 p2 ∧ DataW.Trod enc P w base spare held t3 v3 d3 p3 ∧ DataW.Trod enc P w base spare held t4 v4 d4 p4 := by
  obtain ⟨v0, w0, d0, e0, p0, q0, hargs, rfl, rfl, k0, r0⟩ := trodAll_cons h
  obtain ⟨v1, w1, d1, e1, p1, q1, rfl, rfl, rfl, k1, r1⟩ := trodAll_cons r0
  obtain ⟨v2, w2, d2, e2, p2, q2, rfl, rfl, rfl, k2, r2⟩ := trodAll_cons r1
  obtain ⟨v3, w3, d3, e3, p3, q3, rfl, rfl, rfl, k3, r3⟩ := trodAll_cons r2
  obtain ⟨v4, w4, d4, e4, p4, q4, rfl, rfl, rfl, k4, r4⟩ := trodAll_cons r3
  obtain ⟨rfl, rfl, rfl⟩ := trodAll_nil r4
  exact ⟨v0, v1, v2, v3, v4, d0, d1, d2, d3, d4, p0, p1, p2, p3, p4, by cases args; simp_all, rfl, by simp, k0, k1, k2, k3, k4⟩

theorem trodAll_six {H : Type} {enc : TypeId × Value → H} {P : Program} {w : World} {base : Nat} {spare : Nat → Bool} {held : Bool} {t0 t1 t2 t3 t4 t5 : TypeId} {args : Array Value} {ds : List (DataW H)} {ps : List MemPlace} (h : DataW.TrodAll enc P w base spare held [t0, t1, t2, t3, t4, t5] args.toList ds ps) :
    ∃ v0 v1 v2 v3 v4 v5 d0 d1 d2 d3 d4 d5 p0 p1 p2 p3 p4 p5, args = #[v0, v1, v2, v3, v4, v5] ∧ ds = [d0, d1, d2, d3, d4, d5] ∧ ps = p0 ++ (p1 ++ (p2 ++ (p3 ++ (p4 ++ (p5))))) ∧ DataW.Trod enc P w base spare held t0 v0 d0 p0 ∧ DataW.Trod enc P w base spare held t1 v1 d1 p1 ∧ DataW.Trod enc P w base spare held t2 v2 d2 p2 ∧ DataW.Trod enc P w base spare held t3 v3 d3 p3 ∧ DataW.Trod enc P w base spare held t4 v4 d4 p4 ∧ DataW.Trod enc P w base spare held t5 v5 d5 p5 := by
  obtain ⟨v0, w0, d0, e0, p0, q0, hargs, rfl, rfl, k0, r0⟩ := trodAll_cons h
  obtain ⟨v1, w1, d1, e1, p1, q1, rfl, rfl, rfl, k1, r1⟩ := trodAll_cons r0
  obtain ⟨v2, w2, d2, e2, p2, q2, rfl, rfl, rfl, k2, r2⟩ := trodAll_cons r1
  obtain ⟨v3, w3, d3, e3, p3, q3, rfl, rfl, rfl, k3, r3⟩ := trodAll_cons r2
  obtain ⟨v4, w4, d4, e4, p4, q4, rfl, rfl, rfl, k4, r4⟩ := trodAll_cons r3
  obtain ⟨v5, w5, d5, e5, p5, q5, rfl, rfl, rfl, k5, r5⟩ := trodAll_cons r4
  obtain ⟨rfl, rfl, rfl⟩ := trodAll_nil r5
  exact ⟨v0, v1, v2, v3, v4, v5, d0, d1, d2, d3, d4, d5, p0, p1, p2, p3, p4, p5, by cases args; simp_all, rfl, by simp, k0, k1, k2, k3, k4, k5⟩

end Go.Proofs.Ytkpkhnaflohjpaa

/- An order among the arguments: its ranks are no more than the argument's values. -/

namespace Go.Proofs.Ytkpkhnaflohjpaa

open Go.ChangeShapes Go.WideShapes Go.ChangeAt Go.RowKit
set_option maxRecDepth 20000

section

variable {H : Type} {enc : TypeId × Value → H} {W : World} {base : Nat} {held : Bool}

theorem trod_ints1L {n : Nat} {c0 : Value} {x : DataW H × List MemPlace} (hf : DataW.trod enc Try.prog W base (fun _ => true) held n 22 [c0] = some x) :
    ∃ (p : List Int) (A : Option Addr) (c : Nat), c0 = .slice A p.length c ∧ p.length ≤ c ∧ Ints W W.heap.size A p ∧ p.length ≤ Rows.uptoBulk x.1 := by
  rcases open_ints Try.underlying22 Try.underlying3 cellsInt hf with ⟨hcs, hx⟩ | ⟨ad, len, cap, zs, hcs, _, hn, hmax, hzl, hx, hcell, hwf⟩
  · injection hcs with hcs _
    exact ⟨[], none, 0, hcs, Nat.le_refl _, ⟨by simp, by simp, fun h => by simp at h⟩, Nat.zero_le _⟩
  · injection hcs with hcs _
    subst hcs
    simp only [if_true] at hzl
    have hl : (zs.take len).length = len := by rw [List.length_take]; omega
    refine ⟨zs.take len, some ad, cap, by rw [hl], by omega, ⟨by unfold maxLen at hmax; omega, fun x hx => ?_, fun hpos => ?_⟩, ?_⟩
    · have := hwf x (List.mem_of_mem_take hx)
      simp [Lit.wf, IntKind.min, IntKind.max, IntKind.signed, IntKind.bits] at this
      exact this
    · have c0 := hcell 0 (by omega)
      obtain ⟨blk, off, spot⟩ := ad
      simp only [Addr.add, if_true] at c0
      obtain rfl : spot = none := cell_spot c0
      refine ⟨blk, off, rfl, World.block_lt_of_cell? W _ c0, fun i x hi => ?_⟩
      have hil := (List.getElem?_eq_some_iff.1 hi).1
      have h1 := hcell i (by omega)
      rw [Addr.add_lit] at h1
      rw [h1]
      rw [List.getElem?_take] at hi
      split at hi
      · rw [List.getD_eq_getElem?_getD, hi]; rfl
      · cases hi
    · rw [hx]
      have h1 := bulk_length (lits (H := H) .i64 (zs.take len))
      have h2 : (lits (H := H) .i64 (zs.take len)).length = (zs.take len).length := by simp [lits]
      simp only [Rows.uptoBulk]
      omega

theorem open_orderL {r : Reach} {b0 : Nat} {v : Value} {d : DataW H} {ps : List MemPlace} (hv : Value.okWide Try.prog W r b0 24 v) (h : DataW.Trod enc Try.prog W base (fun _ => true) held 24 v d ps) :
    ∃ (o : Odr) (P Q : Option Addr) (pc qc : Nat), v = .agg #[.bool o.lpo, .slice P o.prec.length pc, .slice Q o.wts.length qc, .int .i64 o.var] ∧ OdrM W W.heap.size o P Q ∧ o.prec.length ≤ Rows.uptoBulk d := by
  obtain ⟨cs, rfl, _⟩ := okWide_struct Try.underlying24 hv
  obtain ⟨fuel, hf⟩ := h
  have hf' : DataW.trod enc Try.prog W base (fun _ => true) held fuel 24 cs.toList = some (d, ps) := hf
  obtain ⟨xs, n', _, hx, hlen, hxs, hg⟩ := DataW.trod_struct Try.underlying24 hf'
  rw [cellsOrder] at hlen
  obtain ⟨l, hl⟩ : ∃ l, cs.toList = l := ⟨_, rfl⟩
  rw [hl] at hlen hg
  match l, hlen, hl with
  | [c0, c1, c2, c3], _, hl =>
    have hx2 : xs.length = 4 := by rw [hxs]; rfl
    match xs, hx2 with
    | [x0, x1, x2, x3], _ =>
      have g0 := hg 0 _ rfl
      have g1 := hg 1 _ rfl
      have g2 := hg 2 _ rfl
      have g3 := hg 3 _ rfl
      simp [cellsBool2] at g0
      simp [cellsInts1] at g1
      simp [cellsInts1] at g2
      simp [cellsInt] at g3
      obtain ⟨b, hbv, _⟩ := DataW.trod_bool Try.underlying4 g0
      injection hbv with hbv
      subst hbv
      obtain ⟨p, P, pc, rfl, h1, h2, h5⟩ := trod_ints1L g1
      obtain ⟨q, Q, qc, rfl, h3, h4⟩ := trod_ints1 g2
      obtain ⟨f, hfv, _, hw⟩ := DataW.trod_int Try.underlying3 g3
      injection hfv with hfv
      subst hfv
      have hf64 : I64 f := by
        have := hw
        simp [Lit.wf, IntKind.min, IntKind.max, IntKind.signed, IntKind.bits] at this
        exact this
      refine ⟨⟨b, p, q, f⟩, P, Q, pc, qc, ?_, ⟨h2, h4, hf64⟩, ?_⟩
      rw [show cs = #[.bool b, .slice P p.length pc, .slice Q q.length qc, .int .i64 f] from Array.toList_inj.1 (by rw [hl])]
      injection hx with hx _
      rw [hx]
      simp only [Rows.uptoBulk, Rows.uptoBulkAll, List.map_cons, List.map_nil]
      show p.length ≤ _
      omega

end

end Go.Proofs.Ytkpkhnaflohjpaa

/- A law's last step, whatever its arguments: it answered true, and below the heap's old size nothing has turned. -/

namespace Go.Proofs.Ytkpkhnaflohjpaa

open Go.ChangeShapes Go.WideShapes Go.ChangeAt Go.RowKit

section

variable {H : Type} {enc : TypeId × Value → H} {P : Program}

theorem trodAll_later (hl : laidOutB P = true) {W W' : World} (hb : Below W.heap.size W W') : ∀ {ts : List TypeId} {vs : List Value} {ds : List (DataW H)} {ps : List MemPlace},
    (ts.all fun t => P.readableRec t && decide (t < P.types.size)) = true → (∀ x ∈ ps, x.block < W.heap.size) → DataW.TrodAll enc P W 0 (fun _ => true) true ts vs ds ps → DataW.TrodAll enc P W' 0 (fun b => decide (b < W.heap.size)) true ts vs ds ps
  | [], [], [], _, _, _, h => h
  | [], [], _ :: _, _, _, _, h => h.elim
  | [], _ :: _, _, _, _, _, h => h.elim
  | _ :: _, [], _, _, _, _, h => h.elim
  | _ :: _, _ :: _, [], _, _, _, h => h.elim
  | t :: ts, v :: vs, d :: ds, ps, hr, hlt, h => by
    obtain ⟨p, q, h1, h2, rfl⟩ := h
    simp only [List.all_cons, Bool.and_eq_true, decide_eq_true_eq] at hr
    exact ⟨p, q, Below.trod hl hr.1.1 hr.1.2 h1 hb (fun x hx => hlt x (List.mem_append_left _ hx)), trodAll_later hl hb hr.2 (fun x hx => hlt x (List.mem_append_right _ hx)) h2, rfl⟩

theorem law_post (hl : laidOutB P = true) {f : Func} {s : ChangeSpec} {tb : TypeId} (hv : s.vars = []) (hrt : f.resultTypes = #[tb]) (htb : P.underlying tb = some .bool)
    (hread : (f.params.toList.all fun t => P.readableRec t && decide (t < P.types.size)) = true) {W W' : World} {args : Array Value} {ds gs : List (DataW H)} {before : List MemPlace}
    (hW : DataW.Whole enc P f.params.toList s.vars false W args.toList ds gs before) (hfn : s.fn H (ds ++ gs) = { results := [.lit (.bool true)], args := ds }) (hb : Below W.heap.size W W') :
    s.post enc P f false true false false W args (.bool true) W' := by
  have hlt := hW.lt
  have hW' := hW
  obtain ⟨p, q, hA, hV, rfl, hfz, _⟩ := hW'
  have hV' : gs = [] ∧ q = [] := by
    rw [hv] at hV
    cases gs with
    | nil => exact ⟨rfl, hV⟩
    | cons _ _ => exact hV.elim
  obtain ⟨rfl, rfl⟩ := hV'
  have hold : ∀ x ∈ p, x.block < W.heap.size := fun x hx => hlt x (by simp [hx])
  refine ⟨ds, [], p ++ [], [], p, [], hW, ?_, ?_, ?_, World.keptBut_mono (fun x hx => ⟨hx, ?_⟩) (hb.frame (· ∈ p ++ [])), fun h => by cases h⟩
  · rw [hfn, hrt]
    exact trodAll_mk1 (shut_bool htb _)
  · rw [hfn]
    exact trodAll_later hl hb hread hold hA
  · rw [hfn, hv]
    rfl
  · rw [List.append_nil] at hx
    exact .inr (.inl hx)

end

end Go.Proofs.Ytkpkhnaflohjpaa

