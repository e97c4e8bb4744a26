/- The document's own answer: order (of variables). rename, again: the function that tells the numbers is asked for those of some variables alone. A map from variables to places, of the call's own: the function that numbers variables in the order in which they are met. -/
import Derived.Test.YtdeegdndfblnkaaU13
import Derived.Test.YtdeegdndfblnkaaMN
import Derived.Test.YtdeegdndfblnkaaU3
import Derived.Maps.OwnSet
namespace Go.Proofs.Ytdeegdndfblnkaa
open Go.RowKit Go.Shelf
set_option maxRecDepth 100000

/-- A number is put behind those that are there, if it is not. -/
def ordI (l : List Int) (v : Int) : List Int := if v ∈ l then l else l ++ [v]
/-- The slice v is the call's own; it holds the numbers. -/
structure IntsR (w : World) (base : Nat) (v : Value) (l : List Int) : Prop where
  row : w.ownsRow base 3 1 v l.length (l.map (Value.int .i64))
  i64 : ∀ x ∈ l, I64 x
theorem IntsR.get {w : World} {base : Nat} {v : Value} {l : List Int} (h : IntsR w base v l) {i : Nat} {x : Int} (hx : l[i]? = some x) : ∃ g c, v = .slice (some ⟨g, 0, none⟩) l.length c ∧ g < w.heap.size ∧ w.cell? ⟨g, i, none⟩ = some (.int .i64 x) := by
  have hlt := (List.getElem?_eq_some_iff.1 hx).1
  rcases h.row.2 with ⟨_, h0⟩ | ⟨g, cap, cur, rfl, hb, hg, _⟩
  · omega
  · refine ⟨g, cap, rfl, (Array.getElem?_eq_some_iff.1 hg).1, ?_⟩
    rw [h.row.cellAt i (by simpa using hlt)]
    simp [hx]
theorem info_int : (Try.prog.info? 3).map (fun i => (i.zero, i.size, i.bytes)) = some (some (.int .i64 0), 1, 8) := by kernel_rfl
theorem ordI_len (l : List Int) (v : Int) : (ordI l v).length ≤ l.length + 1 := by
  unfold ordI
  split
  · omega
  · simp
theorem ord_len : ∀ (r l : List Int), (r.foldl ordI l).length ≤ l.length + r.length
  | [], l => by simp
  | v :: r, l => by
    have h1 := ord_len r (ordI l v)
    have h2 := ordI_len l v
    simp only [List.foldl_cons, List.length_cons]
    omega

theorem vnL_le' (xs : List Tm) (k : Nat) : (vnL (xs.take k)).length ≤ (vnL xs).length := by
  have := congrArg List.length (vnL_app (xs.take k) (xs.drop k))
  rw [List.take_append_drop, List.length_append] at this
  omega
/-- The row that has grown: nothing else has turned. -/
structure OrdW (base : Nat) (v : Value) (w : World) (v' : Value) (l : List Int) (w' : World) : Prop where
  row : IntsR w' base v' l
  gr : w.grownBy w' v.ownBlock
  own : ∀ g, v'.ownBlock = some g → v.ownBlock = some g ∨ w.heap.size ≤ g
theorem OrdW.refl {base : Nat} {v : Value} {w : World} {l : List Int} (h : IntsR w base v l) : OrdW base v w v l w := ⟨h, World.grownBy.refl w _, fun _ e => .inl e⟩
theorem OrdW.old {base : Nat} {v v' : Value} {w w' : World} {l : List Int} (h : OrdW base v w v' l w') {g : Nat} (hg : g < w.heap.size) (hn : v.ownBlock ≠ some g) : w'.heap[g]? = w.heap[g]? := h.gr.block g hg fun e => hn e.symm
theorem OrdW.step {base : Nat} {v v1 v2 : Value} {w w1 w2 : World} {l1 l2 : List Int} (h : OrdW base v w v1 l1 w1) (h2 : OrdW base v1 w1 v2 l2 w2) : OrdW base v w v2 l2 w2 := by
  have hs := h.gr.size
  refine ⟨h2.row, ⟨h2.gr.os.trans h.gr.os, h2.gr.tape.trans h.gr.tape, h2.gr.output.trans h.gr.output, Nat.le_trans hs h2.gr.size, fun g hg hn => ?_⟩, fun g e => ?_⟩
  · refine (h2.gr.block g (Nat.lt_of_lt_of_le hg hs) fun e => ?_).trans (h.gr.block g hg hn)
    rcases h.own g e.symm with h' | h'
    · exact hn h'.symm
    · omega
  · rcases h2.own g e with h' | h'
    · exact h.own g h'
    · exact .inr (by omega)
theorem OrdW.below {base : Nat} {v : Value} {w w1 : World} {l : List Int} (h : IntsR w base v l) (hb : Below w.heap.size w w1) : OrdW base v w v l w1 :=
  ⟨⟨row_keep h.row fun g e => hb.block g (row_lt h.row g e).2, h.i64⟩, ⟨hb.os, hb.tape, hb.output, hb.size, fun k hk _ => hb.block k hk⟩, fun _ e => .inl e⟩
theorem ord_app {base : Nat} {v v5 : Value} {w wr w5 : World} {l : List Int} {x : Int} {o : Obj} (h : IntsR w base v l) (hb : Below w.heap.size w wr) (hx : I64 x) (hown : w5.ownsRow base 3 1 v5 (l.length + 1) (l.map (Value.int .i64) ++ [.int .i64 x])) (hgr : (wr.alloc o).grownBy w5 v.ownBlock) (hat : v5.ownBlock = v.ownBlock ∨ v5.ownBlock = some (wr.alloc o).heap.size) : OrdW base v w v5 (l ++ [x]) w5 := by
  have hs := hb.size
  have hs5 := hgr.size
  have hsz : wr.heap.size + 1 ≤ w5.heap.size := by simpa using hs5
  refine ⟨⟨by simpa using hown, fun y hy => ?_⟩, ⟨hgr.os.trans hb.os, hgr.tape.trans hb.tape, hgr.output.trans hb.output, by omega, fun g hg hn => ?_⟩, fun g e => ?_⟩
  · rcases List.mem_append.1 hy with hy | hy
    · exact h.i64 y hy
    · simp at hy; subst hy; exact hx
  · exact (hgr.block g (by simp; omega) hn).trans ((Below.heap_alloc wr o g (by omega)).trans (hb.block g hg))
  · rcases hat with h' | h'
    · rw [h'] at e; exact .inl e
    · rw [h'] at e; injection e with e; simp at e; exact .inr (by omega)
def OrdPost (base : Nat) (v : Value) (l : List Int) (w : World) (e : Ending) (w' : World) : Prop := ∃ v', e = .returned v' ∧ OrdW base v w v' l w'
def ROrd (t : Tm) : Prop := ∀ (l : List Int), l.length + (vn t).length ≤ 1099511627776 → ∀ (v : Value) (base : Nat) (A : Option Addr) (c : Nat) (w : World), I64 t.fn → IntsR w base v l → ArgsN w (· < base) A t.args → base ≤ w.heap.size →
  Calls Try.prog 65 #[v, .agg #[.int .i64 t.fn, .slice A t.args.length c]] w (OrdPost base v ((vn t).foldl ordI l) w)

theorem row_slice {W : World} {base n : Nat} {e : TypeId} {size : Nat} {v : Value} {vs : List Value} (h : W.ownsRow base e size v n vs) : ∃ A c, v = .slice A n c := by
  rcases h.2 with ⟨hv, h0⟩ | ⟨g, cap, cur, hv, _⟩
  · exact ⟨none, 0, by rw [hv, h0]⟩
  · exact ⟨_, cap, hv⟩
theorem IntsR.on {w w' : World} {base : Nat} {v : Value} {l : List Int} (h : IntsR w base v l) (hb : Below w.heap.size w w') : IntsR w' base v l := ⟨row_keep h.row fun g e => hb.block g (row_lt h.row g e).2, h.i64⟩

set_option maxHeartbeats 4000000 in
theorem refOrder_any (t : Tm) : ROrd t := by
  refine Tm.ind (P := ROrd) (fun f xs ih => ?_) t
  intro l hl v base A c w hf hI hA hbase
  simp only [Tm.fn, Tm.args] at hf hA ⊢
  have hlen := hA.len
  have q0 := heap_alloc_new w (.cells #[.int .i64 f, .slice A xs.length c] 31)
  obtain ⟨W, hW⟩ : ∃ W, w.alloc (.cells #[.int .i64 f, .slice A xs.length c] 31) = W := ⟨_, rfl⟩
  have hB : Below w.heap.size w W := by rw [← hW]; exact (Below.refl _ _).alloc (Nat.le_refl _) _
  rw [hW] at q0
  have hWs : w.heap.size < W.heap.size := (Array.getElem?_eq_some_iff.1 q0).1
  obtain ⟨x0, x1, _, _⟩ := cells_two q0
  have HW := Lib.hid hW
  have HA := Lib.hid hA
  have HI := Lib.hid (hI.on hB)
  have hlo := hf.1
  have hhi := hf.2
  obtain ⟨i0, hi, hz0, hz1, hz2⟩ := info_parts info_int
  have hv0 : (vn (.node f xs)).foldl ordI l = (vnL xs).foldl ordI (if f < 0 then ordI l (-1 - f) else l) := by
    simp only [vn]
    by_cases h : f < 0 <;> simp [h]
  have hl0 : (if f < 0 then ordI l (-1 - f) else l).length + (vnL xs).length ≤ 1099511627776 := by
    simp only [vn] at hl
    by_cases h : f < 0
    · have := ordI_len l (-1 - f)
      simp [h] at hl ⊢; omega
    · simp [h] at hl ⊢; omega
  rw [hv0]
  obtain ⟨r0, hr0⟩ : ∃ r0, (if f < 0 then ordI l (-1 - f) else l) = r0 := ⟨_, rfl⟩
  rw [hr0] at hl0 ⊢
  have Hr0 := Lib.hid hr0
  clear hr0
  have hvn : ∀ g, v.ownBlock = some g → g < w.heap.size := fun g e => (row_lt hI.row g e).2
  have hvb : ∀ g, g < base → v.ownBlock ≠ some g := fun g hg e => by have := (row_lt hI.row g e).1; omega
  have hW0 := Lib.hid (OrdW.below hI hB)
  have hw0 : w.heap.size ≤ W.heap.size := hB.size
  clear hW hA hI hv0
  go_enter Try.func65, Try.ntmps65
  go_upto_region 1 with fail
  rw [HW.out]
  go_upto_if 10 with fail
  go_cut [0, 5, 6] (fun s0 s5 s6 wx => OrdW base v W s0 r0 wx)
  case first =>
    by_cases hneg : f < 0
    · go_wp2
      go_loopw [5, 6] (fun d i wr => ∃ (k : Nat) (b : Bool), k ≤ l.length ∧ i = .int .i64 (k : Int) ∧ d = .bool b ∧ Hid (b = decide ((-1 - f) ∈ l.take k)) ∧ Below W.heap.size W wr) (fun _ i _ => l.length - (intOf i).toNat)
      case atStart => exact ⟨0, false, Nat.zero_le _, rfl, rfl, Lib.hid (by simp), Below.refl _ _⟩
      case round =>
        obtain ⟨k, b, hk, rfl, rfl, Hb, hBr⟩ := hrel
        by_cases hlt : k < l.length
        · obtain ⟨x, hx⟩ : ∃ x, l[k]? = some x := ⟨_, List.getElem?_eq_getElem hlt⟩
          obtain ⟨g, cv, hv, hg, hc⟩ := HI.out.get hx
          subst hv
          have Hx := Lib.hid hx
          clear hx
          have hkl : (k : Int) < (l.length : Int) := by omega
          have c0 : ∀ x' : Later wr.heap.size wr, x'.w.cell? ⟨g, k, none⟩ = some (.int .i64 x) := fun x' => cell_on (hBr.trans (x'.h.mono hBr.size)) hg hc
          have c1 : ∀ x' : Later wr.heap.size wr, x'.w.cell? ⟨w.heap.size, 0, none⟩ = some (.int .i64 f) := fun x' => cell_on (hBr.trans (x'.h.mono hBr.size)) hWs x0
          rcases b with _ | _
          · have hnx : Hid (decide (x = -1 - f) = decide ((-1 - f) ∈ l.take (k + 1))) := Lib.hid (by
              have hb := Hb.out
              rw [List.take_add_one, Hx.out]
              rw [Bool.eq_iff_iff]
              simp only [decide_eq_true_eq, List.mem_append, Option.toList_some, List.mem_cons, List.not_mem_nil, or_false]
              have hb' : ¬ (-1 - f) ∈ l.take k := by simpa using hb.symm
              exact ⟨fun e => .inr e.symm, fun e => by rcases e with e | e; exact absurd e hb'; exact e.symm⟩)
            have hfe : ((x : Int) == -1 - f) = decide (x = -1 - f) := by rw [Bool.eq_iff_iff]; simp
            go_upto_region 6 with fail
            refine wp_region_later wr.heap.size wr (by kernel_rfl) (by kernel_rfl) (bl_drewN (Below.refl _ _) 1) ?_
            repeat (go_big_quiet_step (fail))
            refine wpQuiet_nil ?_
            intro wz hwz
            have hz : Below wr.heap.size wr wz := by obtain ⟨x', rfl⟩ := hwz; exact x'.h
            clear hwz
            go_wp2
            go_roundw
            case rel => exact ⟨k + 1, _, by omega, by go_num, rfl, hnx, hBr.trans (hz.mono hBr.size)⟩
            case measure => simp [intOf]; omega
          · have hnx : Hid (true = decide ((-1 - f) ∈ l.take (k + 1))) := Lib.hid (by
              have hb := Hb.out
              have hb' : (-1 - f) ∈ l.take k := by simpa using hb.symm
              symm
              rw [decide_eq_true_eq, List.take_add_one]
              exact List.mem_append_left _ hb')
            go_upto_region 6 with fail
            refine wp_region_later wr.heap.size wr (by kernel_rfl) (by kernel_rfl) (bl_drewN (Below.refl _ _) 1) ?_
            repeat (go_big_quiet_step (fail))
            refine wpQuiet_nil ?_
            intro wz hwz
            have hz : Below wr.heap.size wr wz := by obtain ⟨x', rfl⟩ := hwz; exact x'.h
            clear hwz
            go_wp2
            go_roundw
            case rel => exact ⟨k + 1, _, by omega, by go_num, rfl, hnx, hBr.trans (hz.mono hBr.size)⟩
            case measure => simp [intOf]; omega
        · obtain rfl : k = l.length := by omega
          rw [List.take_length] at Hb
          obtain ⟨a0, a1, _, _⟩ := cells_two ((hBr.block _ hWs).trans q0)
          have HIr := Lib.hid (HI.out.on hBr)
          obtain ⟨Av, cv, hv⟩ := row_slice HI.out.row
          subst hv
          have hl64 : I64 (-1 - f) := ⟨by omega, by omega⟩
          clear x0 x1
          rcases b with _ | _
          · have hnot : ¬ (-1 - f) ∈ l := by simpa using Hb.out.symm
            have e0 := Hr0.out
            rw [if_pos hneg, show ordI l (-1 - f) = l ++ [-1 - f] by unfold ordI; rw [if_neg hnot]] at e0
            have E0 := Lib.hid e0
            have hll : l.length ≤ 1099511627776 := by omega
            have hrl := row_lt HIr.out.row
            clear e0 hnot
            have hzz := hBr.size
            go_wp2_with (first
              | (at_builtin
                 go_must (
                 refine wpList_append_own_at _ rfl _ _ 51 rfl base 3 i0 (.int .i64 0) 1 8 Try.underlying51 hi hz0 hz1 hz2 rfl (by decide) (.slice Av l.length cv) l.length _ rfl (row_keep HIr.out.row fun g e => Below.heap_alloc wr _ g (hrl g e).2) ⟨wr.heap.size, 0, none⟩ 1 1 [.int .i64 (-1 - f)] rfl rfl (cell_one_new _ _ _) (by simp [Value.oneCell']) (by unfold maxLen; omega) (by omega) (by simp; omega) ?_
                 intro v5 w5 hown5 hgr5 _ hat5
                 have H5 := Lib.hid (ord_app HI.out hBr hl64 hown5 hgr5 hat5)
                 clear hown5 hgr5 hat5))
              | fail)
            go_meet
            rw [← E0.out]
            exact H5.out
          · have hin : (-1 - f) ∈ l := by simpa using Hb.out.symm
            have e0 := Hr0.out
            rw [if_pos hneg, show ordI l (-1 - f) = l by unfold ordI; rw [if_pos hin]] at e0
            have E0 := Lib.hid e0
            clear e0 hin
            go_wp2
            go_meet
            rw [← E0.out]
            exact OrdW.below HI.out hBr
    · go_wp2
      go_meet
      have e0 := Hr0.out
      rw [if_neg (by omega)] at e0
      rw [← e0]
      exact OrdW.refl HI.out
  case rest =>
    have HO0 := Lib.hid hcut
    clear x0 x1 hcut
    go_wp2
    go_loopw [0, 7] (fun o i wr => ∃ (k : Nat) (r : List Int), k ≤ xs.length ∧ i = .int .i64 (k : Int) ∧ Hid (OrdW base v W o r wr) ∧ Hid (r = (vnL (xs.take k)).foldl ordI r0)) (fun _ i _ => xs.length - (intOf i).toNat)
    case atStart => exact ⟨0, r0, Nat.zero_le _, rfl, HO0, Lib.hid (by simp [vnL])⟩
    case round =>
      obtain ⟨k, r, hk, rfl, HO, Hr⟩ := hrel
      have hzr : W.heap.size ≤ wr.heap.size := HO.out.gr.size
      obtain ⟨a0, a1, _, _⟩ := cells_two ((HO.out.old hWs (fun e => by have := hvn _ e; omega)).trans q0)
      by_cases hlt : k < xs.length
      · obtain ⟨y, hy⟩ : ∃ y, xs[k]? = some y := ⟨_, List.getElem?_eq_getElem hlt⟩
        have hk2 : ∀ g, g < base → wr.heap[g]? = w.heap[g]? := fun g hg => (HO.out.old (by omega) (hvb g hg)).trans (hB.block g (by omega))
        obtain ⟨bb, off, A1, c1, rfl, ha⟩ := (HA.out.keep hk2).get hy
        have e0 := ha.c0
        have e1 := ha.c1
        have hvk := vnL_take hy
        have hrl : r.length + (vn y).length ≤ 1099511627776 := by
          have h1 := ord_len (vnL (xs.take k)) r0
          have h2 := vnL_le' xs (k + 1)
          rw [hvk, List.length_append] at h2
          rw [← Hr.out] at h1
          omega
        have hcall := Lib.hid (ih y (List.mem_of_getElem? hy) r hrl u0 base A1 c1 wr ha.hi HO.out.row ha.sub (by omega))
        have Hvk := Lib.hid hvk
        clear hy ha hvk hk2
        go_wp2_with (first
          | (go_at_call 65; (with_reducible refine hcall.out.mono ?_); go_must (rintro e w2 ⟨v2, rfl, hO2⟩; have HO2 := Lib.hid (HO.out.step hO2); clear hO2))
          | fail)
        first
          | (go_roundw
             case rel => exact ⟨k + 1, _, by omega, by go_num, HO2, Lib.hid (by rw [Hvk.out, List.foldl_append, ← Hr.out])⟩
             case measure => simp [intOf]; omega)
          | exact ⟨⟨k + 1, _, by omega, by go_num, HO2, Lib.hid (by rw [Hvk.out, List.foldl_append, ← Hr.out])⟩, by simp [intOf]; omega⟩
      · obtain rfl : k = xs.length := by omega
        have Hf := Lib.hid (show r = (vnL xs).foldl ordI r0 by rw [Hr.out, List.take_length])
        go_wp2
        go_ret
        exact ⟨_, rfl, by rw [← Hf.out]; exact ⟨HO.out.row, ⟨HO.out.gr.os.trans hB.os, HO.out.gr.tape.trans hB.tape, HO.out.gr.output.trans hB.output, Nat.le_trans hw0 hzr, fun g hg hn => (HO.out.gr.block g (by omega) hn).trans (hB.block g hg)⟩, fun g e => (HO.out.own g e).imp id fun h => by omega⟩⟩

end Go.Proofs.Ytdeegdndfblnkaa

namespace Go.Proofs.Ytdeegdndfblnkaa
open Go.RowKit Go.Shelf
set_option maxRecDepth 100000

mutual
/-- Each variable in the term is one of V's. -/
def VT (V : Int → Prop) : Tm → Prop
  | .node f xs => (f < 0 → V (-1 - f)) ∧ VL V xs
def VL (V : Int → Prop) : List Tm → Prop
  | [] => True
  | t :: ts => VT V t ∧ VL V ts
end
theorem VL_mem {V : Int → Prop} : ∀ {xs : List Tm} {t : Tm}, VL V xs → t ∈ xs → VT V t
  | [], _, _, h => by simp at h
  | x :: xs, t, hv, h => by
    simp only [VL] at hv
    rcases List.mem_cons.1 h with rfl | h
    · exact hv.1
    · exact VL_mem hv.2 h

/-- What is asked of the function that tells the numbers. -/
structure NumV {σ : Type} (V : Int → Prop) (nx : σ → Int → σ × Int) (kn : FuncId) (nc : Array Value) (C D N : Nat → Prop) (I : σ → World → Prop) (B0 : Nat) : Prop where
  ent : ∀ (args : Array Value) (w : World), (callFunc kn args).run Try.prog w = .ok (.enter kn args) w
  call : ∀ (s : σ) (v : Int) (W : World), B0 ≤ W.heap.size → I s W → 0 ≤ v → v ≤ 9223372036854775807 → V v → Calls Try.prog kn (#[.int .i64 v] ++ nc) W fun e W' => e = .returned (.int .i64 (nx s v).2) ∧ I64 (nx s v).2 ∧ I (nx s v).1 W' ∧ KeepsC C W W'
  stay : ∀ s W W', I s W → Keeps D W W' → I s W'
  cb : ∀ g, C g → g < B0
  db : ∀ g, D g → g < B0
  nb : ∀ g, N g → g < B0
  nc : ∀ g, N g → ¬ C g

def RenVAt {σ : Type} (V : Int → Prop) (nx : σ → Int → σ × Int) (kn : FuncId) (nc : Array Value) (C N : Nat → Prop) (I : σ → World → Prop) (B0 : Nat) (t : Tm) : Prop :=
  t.size ≤ 4398046511104 → ∀ (s : σ) (A : Option Addr) (c : Nat) (w : World), B0 ≤ w.heap.size → I s w → I64 t.fn → VT V t → ArgsN w N A t.args →
    Calls Try.prog 63 #[.agg #[.int .i64 t.fn, .slice A t.args.length c], .func (.func kn) #[] nc] w (RenPost C I (renT nx s t) w)

section
variable {σ : Type} {V : Int → Prop} {nx : σ → Int → σ × Int} {kn : FuncId} {nc : Array Value} {C D N : Nat → Prop} {I : σ → World → Prop} {B0 : Nat}

set_option maxHeartbeats 1000000 in
theorem renameV1_any (hN : NumV V nx kn nc C D N I B0) (t : Tm) (hsz : t.size ≤ 4398046511104) (hrec : RenVAt V nx kn nc C N I B0 t) (s : σ) (A : Option Addr) (c bx : Nat) (W : World) (hB0 : B0 ≤ W.heap.size) (hb : Boxed W bx 94 (.func (.func kn) #[] nc)) (hs : I s W) (hf : I64 t.fn) (hV : VT V t) (hA : ArgsN W N A t.args) :
    Calls Try.prog 102 #[.agg #[.int .i64 t.fn, .slice A t.args.length c], .pointer (some ⟨bx, 0, none⟩)] W (RenPost C I (renT nx s t) W) := by
  obtain ⟨q0, q1⟩ := heap2 W (.cells #[.int .i64 t.fn, .slice A t.args.length c] 31) (.cells #[.int .i64 0, .slice none 0 0] 31)
  obtain ⟨W2, hW2⟩ : ∃ W2, ((W.alloc (.cells #[.int .i64 t.fn, .slice A t.args.length c] 31)).alloc (.cells #[.int .i64 0, .slice none 0 0] 31)) = W2 := ⟨_, rfl⟩
  have hB : Below W.heap.size W W2 := by rw [← hW2]; exact ((Below.refl _ _).alloc (Nat.le_refl _) _).alloc (by simp) _
  rw [hW2] at q0 q1
  have hWs : W.heap.size + 1 < W2.heap.size := (Array.getElem?_eq_some_iff.1 q1).1
  have hcb := Boxed.cell (show Boxed W2 bx _ _ from (hB.block _ hb.lt).trans hb)
  have hrec' := Lib.hid (hrec hsz s A c W2 (by omega) (hN.stay s W W2 hs ((Keeps.of_below hB).mono fun g e => by have := hN.db g e; show g < W.heap.size; omega)) hf hV (hA.keep fun g e => hB.block g (by have := hN.nb g e; omega)))
  have HW := Lib.hid hW2
  have HN := Lib.hid hN
  obtain ⟨a0, a1, _, _⟩ := cells_two q0
  clear hW2 hA hs hrec hN
  go_enter Try.func102, Try.ntmps102
  go_upto_region 1 with fail
  rw [HW.out]
  go_wp2_with (first
    | (go_at_call 63; refine hrec'.out.mono ?_; go_must (rintro e w3 ⟨A3, c3, rfl, hi3, hO3, hI3, hk3⟩; have y3 := (hk3.block hWs (fun e => by have := HN.out.cb _ e; omega)).trans q1; obtain ⟨b0, b1, g0, g1⟩ := cells_two y3; have hO3 := Lib.hid hO3; have hI3 := Lib.hid hI3))
    | fail)
  obtain ⟨z0, z1⟩ := set2_two (u := .int .i64 (renT nx s t).2.fn) (v := .slice A3 (renT nx s t).2.args.length c3) y3
  have p0 := (cells_two z0).1
  have p1 := (cells_two z1).2.1
  have hoth : ∀ g, g ≠ W.heap.size + 1 → ((w3.setCell ⟨W.heap.size + 1, 0, none⟩ (.int .i64 (renT nx s t).2.fn)).setCell ⟨W.heap.size + 1, 1, none⟩ (.slice A3 (renT nx s t).2.args.length c3)).heap[g]? = w3.heap[g]? := fun g e => (heap_setCell_other _ _ _ _ e).trans (heap_setCell_other _ _ _ _ e)
  refine bodyPost_ret (v := .agg #[.int .i64 (renT nx s t).2.fn, .slice A3 (renT nx s t).2.args.length c3]) (by simp [results, Try.results102, go_sem, p0, p1]) rfl ⟨A3, c3, rfl, hi3, ?_, ?_, ?_⟩
  · exact OwnT.wide (lo := W2.heap.size) (hi := w3.heap.size) (hO3.out.keep fun g h1 _ => hoth g (by omega)) (by omega) (by simp)
  · exact HN.out.stay _ _ _ hI3.out ⟨rfl, rfl, rfl, by simp, fun g e => hoth g (by have := HN.out.db g e; omega)⟩
  · exact (((KeepsC.of_below hB).trans hk3).set (by show _ ≤ W.heap.size + 1; omega) _).set (by show _ ≤ W.heap.size + 1; omega) _

theorem renV_fin (hN : NumV V nx kn nc C D N I B0) {s s1 : σ} {f f' : Int} {xs : List Tm} {A3 : Option Addr} {c3 : Nat} {w W w1 w3 : World} (hB0 : B0 ≤ w.heap.size) (hB : Below w.heap.size w W) (hk1 : KeepsC C W w1) (hk3 : KeepsC C w1 w3)
    (hO3 : OwnT w3 w1.heap.size w3.heap.size A3 (renL nx s1 xs).2) (hI3 : I (renL nx s1 xs).1 w3) (hF : renF nx s f = (s1, f')) (h64 : I64 f') (hW : w.heap.size + 2 < W.heap.size) :
    RenPost C I (renT nx s (.node f xs)) w (.returned (.agg #[.int .i64 f', .slice A3 (renL nx s1 xs).2.length c3])) ((w3.setCell ⟨w.heap.size + 1 + 1, 0, none⟩ (.int .i64 f')).setCell ⟨w.heap.size + 1 + 1, 1, none⟩ (.slice A3 (renL nx s1 xs).2.length c3)) := by
  have hr : renT nx s (.node f xs) = ((renL nx s1 xs).1, .node f' (renL nx s1 xs).2) := by simp only [renT, hF]
  have hz1 := hk1.size
  have hoth : ∀ g, g ≠ w.heap.size + 1 + 1 → ((w3.setCell ⟨w.heap.size + 1 + 1, 0, none⟩ (.int .i64 f')).setCell ⟨w.heap.size + 1 + 1, 1, none⟩ (.slice A3 (renL nx s1 xs).2.length c3)).heap[g]? = w3.heap[g]? := fun g e => (heap_setCell_other _ _ _ _ e).trans (heap_setCell_other _ _ _ _ e)
  rw [hr]
  refine ⟨A3, c3, rfl, h64, ?_, ?_, ?_⟩
  · exact OwnT.wide (lo := w1.heap.size) (hi := w3.heap.size) (hO3.keep fun g h1 _ => hoth g (by omega)) (by omega) (by simp)
  · exact hN.stay _ _ _ hI3 ⟨rfl, rfl, rfl, by simp, fun g e => hoth g (by have := hN.db g e; omega)⟩
  · exact ((((KeepsC.of_below hB).trans hk1).trans hk3).set (by show _ ≤ w.heap.size + 1 + 1; omega) _).set (by show _ ≤ w.heap.size + 1 + 1; omega) _

set_option maxHeartbeats 2000000 in
theorem renameV_any (hN : NumV V nx kn nc C D N I B0) (t : Tm) : RenVAt V nx kn nc C N I B0 t := by
  refine Tm.ind (P := RenVAt V nx kn nc C N I B0) (fun f xs ih => ?_) t
  intro hsz s A c w hB0 hs hf hV hA
  simp only [VT] at hV
  obtain ⟨hVf, hVx⟩ := hV
  simp only [Tm.fn, Tm.args] at hf hA ⊢
  have hlen : xs.length ≤ 4398046511104 := by have := sizes_len xs; simp only [Tm.size] at hsz; omega
  obtain ⟨q0, q1, q2⟩ := heap3 w (.cells #[.int .i64 f, .slice A xs.length c] 31) (.cells #[.func (.func kn) #[] nc] 94) (.cells #[.int .i64 0, .slice none 0 0] 31)
  obtain ⟨W, hW⟩ : ∃ W, (((w.alloc (.cells #[.int .i64 f, .slice A xs.length c] 31)).alloc (.cells #[.func (.func kn) #[] nc] 94)).alloc (.cells #[.int .i64 0, .slice none 0 0] 31)) = W := ⟨_, rfl⟩
  have hB : Below w.heap.size w W := by rw [← hW]; exact (((Below.refl _ _).alloc (Nat.le_refl _) _).alloc (by simp) _).alloc (by simp; omega) _
  rw [hW] at q0 q1 q2
  have hWs : w.heap.size + 2 < W.heap.size := (Array.getElem?_eq_some_iff.1 q2).1
  have HW := Lib.hid hW
  have HN := Lib.hid hN
  have HA := Lib.hid hA
  have hent := hN.ent
  have hsW := Lib.hid (hN.stay s w W hs ((Keeps.of_below hB).mono fun g e => by have := hN.db g e; show g < w.heap.size; omega))
  obtain ⟨a0, a1, _, _⟩ := cells_two q0
  have hcn := Boxed.cell (show Boxed W (w.heap.size + 1) _ _ from q1)
  clear hW hA hs hN
  -- the row of the arguments, behind whatever the number's telling has left
  have key : ∀ (s1 : σ) (W1 : World), KeepsC C W W1 → I s1 W1 → Calls Try.prog 98 #[.slice A xs.length c, .func (.func 102) #[] #[.pointer (some ⟨w.heap.size + 1, 0, none⟩)]] W1 fun e w' => ∃ A' c', e = .returned (.slice A' (renL nx s1 xs).2.length c') ∧ OwnT w' W1.heap.size w'.heap.size A' (renL nx s1 xs).2 ∧ I (renL nx s1 xs).1 w' ∧ KeepsC C W1 w' := by
    intro s1 W1 hk1 hs1
    have hz1 := hk1.size
    have hncx : ¬ C (w.heap.size + 1) := fun e => by have := HN.out.cb _ e; omega
    refine (eachT_any 102 (enters_of Try.func102 (by kernel_rfl) rfl) (.pointer (some ⟨w.heap.size + 1, 0, none⟩)) C (fun g => D g ∨ g = w.heap.size + 1) N (fun i W => I (renL nx s1 (xs.take i)).1 W ∧ Boxed W (w.heap.size + 1) 94 (.func (.func kn) #[] nc)) xs (renL nx s1 xs).2 A c W1 (by rw [renL_len]; exact hlen) (by rw [renL_len])
      ((HA.out.keep fun g e => hB.block g (by have := HN.out.nb g e; omega)).keep fun g e => hk1.block (by have := HN.out.nb g e; omega) (HN.out.nc g e)) (fun g e => by have := HN.out.nb g e; omega) HN.out.nc (fun g e => by have := HN.out.cb g e; omega) (fun g e => by rcases e with e | e; have := HN.out.db g e; omega; omega) (fun i Wa Wb h hk => ⟨HN.out.stay _ _ _ h.1 (hk.mono fun g e => .inl e), (hk.block _ (.inr rfl)).trans h.2⟩) ⟨by simpa [renL] using hs1, (hk1.block (by omega) hncx).trans q1⟩ ?_).mono ?_
    · intro i t y A' c' Wi ht hy hsz1 _ hIi hi64 hAi
      obtain ⟨g1, g2⟩ := renL_get nx s1 xs i t ht
      rw [hy] at g1
      injection g1 with g1
      have hmem := List.mem_of_getElem? ht
      have hts : t.size ≤ 4398046511104 := by have := size_mem hmem; simp only [Tm.size] at hsz; omega
      refine (renameV1_any HN.out t hts (ih t hmem) _ A' c' (w.heap.size + 1) Wi (by omega) hIi.2 hIi.1 hi64 (VL_mem hVx hmem) hAi).mono ?_
      rintro e w' ⟨A2, c2, rfl, h1, h2, h3, h4⟩
      rw [← g1] at h1 h2 ⊢
      exact ⟨A2, c2, rfl, h1, h2, ⟨by rw [g2]; exact h3, (h4.block hIi.2.lt hncx).trans hIi.2⟩, h4⟩
    · rintro e w' ⟨A', c', rfl, h1, h2, h3⟩
      exact ⟨A', c', rfl, h1, by have := h2.1; rwa [renL_len, List.take_length] at this, h3⟩
  have hkey := Lib.hid key
  clear key ih
  have hlo := hf.1
  have hhi := hf.2
  have hnC : ∀ g, w.heap.size ≤ g → ¬ C g := fun g h e => by have := HN.out.cb _ e; omega
  have hnD : ∀ g, D g → g < w.heap.size := fun g e => by have := HN.out.db _ e; omega
  by_cases hneg : f < 0
  · have hF : renF nx s f = ((nx s (-1 - f)).1, -1 - (nx s (-1 - f)).2) := by unfold renF; rw [if_pos hneg]
    have hnum := Lib.hid (HN.out.call s (-1 - f) W (by omega) hsW.out (by omega) (by omega) (hVf hneg))
    have HF := Lib.hid hF
    clear hF
    go_enter Try.func63, Try.ntmps63
    go_upto_region 1 with fail
    rw [HW.out]
    go_wp2_with (first
      | (go_at_call 98; refine (hkey.out _ w1 hk1 hI1.out).mono ?_; go_must (rintro e w3 ⟨A3, c3, rfl, hO3, hI3, hk3⟩; have y3 := (hk3.block (by have := hk1.size; omega) (hnC _ (by omega))).trans y1; obtain ⟨b0, b1, g0, g1⟩ := cells_two y3; have hO3 := Lib.hid hO3; have hI3 := Lib.hid hI3))
      | ((with_reducible refine hnum.out.mono ?_); go_must (rintro e w1 ⟨rfl, hn64, hI1, hk1⟩; have hn1 := hn64.1; have hn2 := hn64.2; have y1 := (hk1.block hWs (hnC _ (by omega))).trans q2; obtain ⟨c0, c1, _, _⟩ := cells_two ((hk1.block (by omega) (hnC _ (Nat.le_refl _))).trans q0); have hI1 := Lib.hid hI1))
      | fail)
    obtain ⟨z0, z1⟩ := set2_two (u := .int .i64 (-1 - (nx s (-1 - f)).2)) (v := .slice A3 (renL nx (nx s (-1 - f)).1 xs).2.length c3) y3
    have p0 := (cells_two z0).1
    have p1 := (cells_two z1).2.1
    exact bodyPost_ret (v := .agg #[.int .i64 (-1 - (nx s (-1 - f)).2), .slice A3 (renL nx (nx s (-1 - f)).1 xs).2.length c3]) (by simp [results, Try.results63, go_sem, p0, p1]) rfl (renV_fin HN.out hB0 hB hk1 hk3 hO3.out hI3.out HF.out ⟨by omega, by omega⟩ hWs)
  · have hF : renF nx s f = (s, f) := by unfold renF; rw [if_neg hneg]
    have HF := Lib.hid hF
    clear hF
    go_enter Try.func63, Try.ntmps63
    go_upto_region 1 with fail
    rw [HW.out]
    go_wp2_with (first
      | (go_at_call 98; refine (hkey.out s W (KeepsC.refl _ _) hsW.out).mono ?_; go_must (rintro e w3 ⟨A3, c3, rfl, hO3, hI3, hk3⟩; have y3 := (hk3.block hWs (hnC _ (by omega))).trans q2; obtain ⟨b0, b1, g0, g1⟩ := cells_two y3; have hO3 := Lib.hid hO3; have hI3 := Lib.hid hI3))
      | fail)
    obtain ⟨z0, z1⟩ := set2_two (u := .int .i64 f) (v := .slice A3 (renL nx s xs).2.length c3) y3
    have p0 := (cells_two z0).1
    have p1 := (cells_two z1).2.1
    exact bodyPost_ret (v := .agg #[.int .i64 f, .slice A3 (renL nx s xs).2.length c3]) (by simp [results, Try.results63, go_sem, p0, p1]) rfl (renV_fin HN.out hB0 hB (KeepsC.refl _ _) hk3 hO3.out hI3.out HF.out hf hWs)
end

end Go.Proofs.Ytdeegdndfblnkaa

namespace Go.Proofs.Ytdeegdndfblnkaa
open Go.RowKit Go.Shelf Go.Maps
set_option maxRecDepth 100000

theorem intLaw : Keyed Try.prog 3 := int_keyed Try.underlying3
theorem zeroIntV (w : World) : (zeroValue 3).run Try.prog w = .ok (.int .i64 0) w := by kernel_rfl
theorem keyOf_v {x : Int} (hx : I64 x) : keyOf Try.prog 3 (.int .i64 x) = some (.int .i64 x) :=
  keyOf_int_mk Try.underlying3 (WalkArith.wf_i64 ⟨by have := hx.1; omega, by have := hx.2; omega⟩)
theorem nodup_le : ∀ {l U : List Int}, l.Nodup → (∀ x ∈ l, x ∈ U) → l.length ≤ U.length
  | [], _, _, _ => by simp
  | x :: l, U, hn, hs => by
    have hx := hs x (by simp)
    have h1 := List.length_erase_of_mem hx
    have h2 := List.length_pos_of_mem hx
    rw [List.nodup_cons] at hn
    have ih := nodup_le (l := l) (U := U.erase x) hn.2 fun y hy => (List.mem_erase_of_ne (fun (e : y = x) => hn.1 (by rw [← e]; exact hy))).2 (hs y (by simp [hy]))
    simp only [List.length_cons]
    omega

/-- Block b of w is a map that holds, for each of l, its place there; and nothing else. -/
def IMap (w : World) (b : Nat) (l : List Int) : Prop :=
  ∃ D : DataW Unit, w.ownsMap Try.prog 3 (plainElem Try.prog 3) b l.length D ∧ Maps.size D = l.length ∧ ∀ x, I64 x → ∀ z, D.atKey (.int .i64 x) z = if x ∈ l then .lit (.int .i64 (l.idxOf x : Nat)) else z
theorem IMap.made (w : World) : IMap (w.alloc (.map #[] 0)) w.heap.size [] :=
  ⟨_, World.ownsMap_made w _ _ _, rfl, fun _ _ _ => rfl⟩
theorem IMap.lt {w : World} {b : Nat} {l : List Int} (h : IMap w b l) : b < w.heap.size := h.elim fun _ h => h.1.lt
theorem IMap.kept {w w' : World} {b : Nat} {l : List Int} (h : IMap w b l) (hk : w'.heap[b]? = w.heap[b]?) : IMap w' b l := by
  obtain ⟨D, ⟨es, clock, hb, F, hs, hD⟩, hat⟩ := h
  exact ⟨D, ⟨es, clock, hk.trans hb, F, hs, hD⟩, hat⟩
theorem IMap.look {w : World} {b : Nat} {l : List Int} (h : IMap w b l) {x : Int} (hx : I64 x) :
    (Instr.lookup 92 (.map (some b)) (.int .i64 x) true).run Try.prog w = .ok (.tuple #[.int .i64 (if x ∈ l then (l.idxOf x : Int) else 0), .bool (decide (x ∈ l))]) w := by
  obtain ⟨D, hown, _, hat⟩ := h
  obtain ⟨v, ps, hrun, hv⟩ := hown.look_ok intLaw Try.underlying92 (zeroIntV w) (plainElem_int Try.underlying3 (by decide)) (keyOf_v hx)
  obtain ⟨c, rfl, hc, _⟩ := plainElem_int_inv Try.underlying3 hv
  have e := hat x hx
  have e0 := e (.lit (.int .i64 0))
  have hc' := congrArg Prod.fst hc
  simp only at hc'
  rw [hc'] at e0
  by_cases hm : x ∈ l
  · simp only [hm, if_true, decide_true] at e e0 ⊢
    injection e0 with e0; injection e0 with _ e0; subst e0
    rw [has_true_of_atKey (fun z => e z)] at hrun
    exact hrun
  · simp only [hm, if_false, decide_false] at e e0 ⊢
    injection e0 with e0; injection e0 with _ e0; subst e0
    rw [has_false_of_atKey (fun z => e z)] at hrun
    simpa using hrun
theorem IMap.put {w w0 : World} {b n0 : Nat} {D : DataW Unit} {l : List Int} {v : Int} (hv : I64 v) (hn : v ∉ l) (h0 : w0.ownsMap Try.prog 3 (plainElem Try.prog 3) b n0 D) (hs : Maps.size D = l.length)
    (hat : ∀ x, I64 x → ∀ z, D.atKey (.int .i64 x) z = if x ∈ l then .lit (.int .i64 (l.idxOf x : Nat)) else z)
    (h : w.ownsMap Try.prog 3 (plainElem Try.prog 3) b (l.length + 1) (D.put (.int .i64 v) (.lit (.int .i64 (l.length : Nat))))) : IMap w b (l ++ [v]) := by
  have hno : Maps.has D (.int .i64 v) = false := has_false_of_atKey fun z => by rw [hat v hv z, if_neg hn]
  refine ⟨_, by simpa using h, ?_, fun x hx z => ?_⟩
  · rw [size_put (h0.tidy intLaw), hno, hs]
    simp
  · by_cases e : x = v
    · subst e
      rw [atKey_put_same h0.isMap (intLaw.key (keyOf_v hx)), if_pos (by simp), List.idxOf_append, if_neg hn]
      simp
    · rw [atKey_put_other (fun h => e (by simpa using h)), hat x hx z]
      by_cases hm : x ∈ l
      · rw [if_pos hm, if_pos (by simp [hm]), List.idxOf_append, if_pos hm]
      · rw [if_neg hm, if_neg (by simp [hm, e])]

/-- A variable's number is its place among those that were met. -/
def nxI (l : List Int) (v : Int) : List Int × Int := (ordI l v, ((ordI l v).idxOf v : Nat))
/-- What the function knows. -/
structure NumI (U : List Int) (bx b : Nat) (l : List Int) (w : World) : Prop where
  box : Boxed w bx 92 (.map (some b))
  map : IMap w b l
  nd : l.Nodup
  sub : ∀ x ∈ l, x ∈ U
theorem nxI_in {l : List Int} {v : Int} (h : v ∈ l) : nxI l v = (l, ((l.idxOf v : Nat) : Int)) := by unfold nxI ordI; rw [if_pos h]
theorem nxI_out {l : List Int} {v : Int} (h : v ∉ l) : nxI l v = (l ++ [v], ((l.length : Nat) : Int)) := by
  unfold nxI ordI
  rw [if_neg h, List.idxOf_append, if_neg h]
  simp

theorem number_any (U : List Int) (hU : U.length ≤ 4611686018427387904) (bx b : Nat) (hne : bx ≠ b) (l : List Int) (v : Int) (W : World) (h : NumI U bx b l W) (h0 : 0 ≤ v) (h1 : v ≤ 9223372036854775807) (hv : v ∈ U) :
    Calls Try.prog 61 #[.int .i64 v, .pointer (some ⟨bx, 0, none⟩)] W fun e W' => e = .returned (.int .i64 (nxI l v).2) ∧ I64 (nxI l v).2 ∧ NumI U bx b (nxI l v).1 W' ∧ KeepsC (· = b) W W' := by
  have hv64 : I64 v := ⟨by omega, h1⟩
  have hlen := nodup_le h.nd h.sub
  have hc := h.box.cell
  have hlook := h.map.look hv64
  have H := Lib.hid h
  by_cases hm : v ∈ l
  · simp only [hm, if_true, decide_true] at hlook
    have hid := List.idxOf_lt_length_of_mem hm
    rw [nxI_in hm]
    have Hm := Lib.hid hm
    clear hm h
    go_enter Try.func61, Try.ntmps61
    go_wp2
    go_ret
    exact ⟨rfl, ⟨by omega, by omega⟩, H.out, KeepsC.refl _ _⟩
  · simp only [hm, if_false, decide_false] at hlook
    rw [nxI_out hm]
    obtain ⟨D, hown, hsz, hat⟩ := h.map
    have Hm := Lib.hid hm
    have Hat := Lib.hid hat
    have Hown := Lib.hid hown
    have Hsz := Lib.hid hsz
    clear hm h hat
    go_enter Try.func61, Try.ntmps61
    go_wp2_with (first
      | (at_len; refine wpList_len_own _ rfl _ 92 rfl 3 3 Try.underlying92 _ b _ D rfl Hown.out ?_; rw [Hsz.out])
      | (at_mapUpdate; refine wpList_mapUpdate_own _ rfl _ _ _ 92 rfl 3 3 intLaw Try.underlying92 _ b _ D rfl Hown.out (by unfold maxLen; omega) _ _ _ rfl rfl (keyOf_v hv64) _ [] (plainElem_int Try.underlying3 (WalkArith.wf_i64 ⟨by omega, by omega⟩)) ?_; intro w1 hown1 hgrow1)
      | fail)
    go_ret
    refine ⟨rfl, ⟨by omega, by omega⟩, ⟨H.out.box.kept hgrow1 (by simpa using hne), IMap.put hv64 Hm.out Hown.out Hsz.out Hat.out hown1, ?_, fun x hx => ?_⟩, ?_⟩
    · rw [List.nodup_append]
      exact ⟨H.out.nd, by simp, fun a ha c hc e => Hm.out (by simp at hc; rw [← hc, ← e]; exact ha)⟩
    · rcases List.mem_append.1 hx with hx | hx
      · exact H.out.sub x hx
      · simp at hx; rw [hx]; exact hv
    · exact (Keeps.of_grown hgrow1).mono fun g e => ⟨e.1, by simpa using e.2⟩
theorem number_num (U : List Int) (hU : U.length ≤ 4611686018427387904) (bx b B0 : Nat) (hne : bx ≠ b) (N : Nat → Prop) (hN : ∀ g, N g → g < B0) (hNb : ∀ g, N g → g ≠ b) (hbx : bx < B0) (hb : b < B0) :
    NumV (· ∈ U) nxI 61 #[.pointer (some ⟨bx, 0, none⟩)] (· = b) (fun g => g = bx ∨ g = b) N (NumI U bx b) B0 where
  ent := enters_of Try.func61 (by kernel_rfl) rfl
  call := fun s v W _ hI h0 h1 hv => number_any U hU bx b hne s v W hI h0 h1 hv
  stay := fun s W W' h hk => ⟨(hk.block bx (.inl rfl)).trans h.box, h.map.kept (hk.block b (.inr rfl)), h.nd, h.sub⟩
  cb := fun g e => by have e' : g = b := e; omega
  db := fun g e => by rcases e with e | e <;> omega
  nb := hN
  nc := hNb

end Go.Proofs.Ytdeegdndfblnkaa
