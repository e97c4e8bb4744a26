import Derived.Test.YtmmiclpedehcpaaDoorP51S1
import Derived.Test.YtmmiclpedehcpaaDoorP51S2
import Derived.BigQuiet
import Derived.ProofKit
import Derived.SizedLaws
import Derived.Deep.Slices
import Derived.Carry
import Derived.Test.YtmmiclpedehcpaaDoorRows
import Derived.Below
import Derived.Test.YtmmiclpedehcpaaDoorCards
import Derived.WalkKit
import Derived.OpenShut
import Derived.Deep.DeepHandedRow
import Derived.Lib.LaidTab
import Derived.MakeChecks
namespace Go.Proofs.YtmmiclpedehcpaaDoor
open Go.RowKit
set_option maxRecDepth 100000
def RCmp (t : Tm) : Prop := ∀ (u : Tm) (A A2 : Option Addr) (c c2 : Nat) (w : World), I64 t.fn → I64 u.fn → Args w w.heap.size A t.args → Args w w.heap.size A2 u.args →
  Calls Tryd.prog 35 #[.agg #[.int .i64 t.fn, .slice A t.args.length c], .agg #[.int .i64 u.fn, .slice A2 u.args.length c2]] w fun e w' => e = .returned (.int .i64 (cmpT t u)) ∧ Below w.heap.size w w'
theorem head_ne {f g : Int} (h : f ≠ g) : headI f g = if f < 0 ∧ g < 0 then (if g < f then -1 else 1) else if f < g then -1 else 1 := by unfold headI; rw [if_neg h]
theorem head_nz {f g : Int} (h : f ≠ g) : ¬ headI f g = 0 := by
  rw [head_ne h]
  split
  · split <;> omega
  · split <;> omega
set_option maxHeartbeats 2000000 in
theorem ref2Cmp_any (t : Tm) : RCmp t := by
  refine Tm.ind (P := RCmp) (fun f xs ih => ?_) t
  intro u A A2 c c2 w hf hg hA hA2
  obtain ⟨g, ys⟩ := u
  simp only [Tm.fn, Tm.args] at hf hg hA hA2 ⊢
  have hl1 := hA.len
  have hl2 := hA2.len
  obtain ⟨p0, p1⟩ := heap2 w (.cells #[.int .i64 f, .slice A xs.length c] 37) (.cells #[.int .i64 g, .slice A2 ys.length c2] 37)
  obtain ⟨W, hW⟩ : ∃ W, ((w.alloc (.cells #[.int .i64 f, .slice A xs.length c] 37)).alloc (.cells #[.int .i64 g, .slice A2 ys.length c2] 37)) = W := ⟨_, rfl⟩
  have hB : Below w.heap.size w W := by rw [← hW]; exact ((Below.refl _ _).alloc (Nat.le_refl _) _).alloc (by simp) _
  rw [hW] at p0 p1
  have hWs : w.heap.size + 1 < W.heap.size := (Array.getElem?_eq_some_iff.1 p1).1
  have HW := Lib.hid hW
  have hA' := Lib.hid (hA.on hB)
  have hA2' := Lib.hid (hA2.on hB)
  have hSS : ∀ w', Below W.heap.size W w' → w'.cell? ⟨w.heap.size, 0, none⟩ = some (.int .i64 f) ∧ w'.cell? ⟨w.heap.size, 1, none⟩ = some (.slice A xs.length c) ∧ w'.cell? ⟨w.heap.size + 1, 0, none⟩ = some (.int .i64 g) ∧ w'.cell? ⟨w.heap.size + 1, 1, none⟩ = some (.slice A2 ys.length c2) := fun w' h =>
    ⟨(cells_two ((h.block _ (by omega)).trans p0)).1, (cells_two ((h.block _ (by omega)).trans p0)).2.1, (cells_two ((h.block _ hWs).trans p1)).1, (cells_two ((h.block _ hWs).trans p1)).2.1⟩
  obtain ⟨x0, x1, x2, x3⟩ := hSS W (Below.refl _ _)
  clear hW hA hA2 p0 p1
  by_cases hfg : f = g
  · subst hfg
    have hh : headI f f = 0 := by unfold headI; rw [if_pos rfl]
    go_enter Tryd.func35, Tryd.ntmps35
    go_upto_region 1 with fail
    rw [HW.out]
    go_wp2
    clear x0 x1 x2 x3
    go_loopw [5] (fun i wr => ∃ k : Nat, k ≤ xs.length ∧ k ≤ ys.length ∧ i = .int .i64 (k : Int) ∧ Below W.heap.size W wr ∧ Hid (∀ (j : Nat) (x y : Tm), j < k → xs[j]? = some x → ys[j]? = some y → cmpT x y = 0)) (fun i _ => xs.length - (intOf i).toNat)
    case atStart => exact ⟨0, Nat.zero_le _, Nat.zero_le _, rfl, Below.refl _ _, fun j x y h => by omega⟩
    case round =>
      obtain ⟨k, hk, hk2, rfl, hBr, H⟩ := hrel
      obtain ⟨_, x1, _, x3⟩ := hSS _ hBr
      by_cases hkl : k < xs.length ∧ k < ys.length
      · obtain ⟨hkx, hky⟩ := hkl
        obtain ⟨a, ha⟩ : ∃ a, xs[k]? = some a := ⟨_, List.getElem?_eq_getElem hkx⟩
        obtain ⟨b, hb⟩ : ∃ b, ys[k]? = some b := ⟨_, List.getElem?_eq_getElem hky⟩
        obtain ⟨bb, off, A', c', rfl, h1⟩ := (hA'.out.on hBr).get ha
        obtain ⟨bb2, off2, A2', c2', rfl, h2⟩ := (hA2'.out.on hBr).get hb
        have a0 := h1.c0
        have a1 := h1.c1
        have b0 := h2.c0
        have b1 := h2.c1
        have q1 := h1.hb
        have q2 := h2.hb
        have i1 := h1.hi
        have i2 := h2.hi
        have s1 : Hid (Args wr.drew wr.drew.heap.size A' a.args) := h1.sub.drewN 1
        have s2 : Hid (Args wr.drew wr.drew.heap.size A2' b.args) := h2.sub.drewN 1
        have Hab := Lib.hid (And.intro ha hb)
        have hia := ih a (List.mem_of_getElem? ha)
        clear ha hb h1 h2
        by_cases h0 : cmpT a b = 0
        · go_wp2
          go_region_held3 (fun w' => w'.cell? ⟨w.heap.size, 1, none⟩ = some (.slice (some ⟨bb, off, none⟩) xs.length c) ∧ w'.cell? ⟨w.heap.size + 1, 1, none⟩ = some (.slice (some ⟨bb2, off2, none⟩) ys.length c2) ∧ w'.cell? ⟨bb, off + k * 2, none⟩ = some (.int .i64 a.fn) ∧ w'.cell? ⟨bb, off + k * 2 + 1, none⟩ = some (.slice A' a.args.length c') ∧ w'.cell? ⟨bb2, off2 + k * 2, none⟩ = some (.int .i64 b.fn) ∧ w'.cell? ⟨bb2, off2 + k * 2 + 1, none⟩ = some (.slice A2' b.args.length c2'))
            (first | exact ⟨x1, x3, a0, a1, b0, b1⟩ | exact ⟨(hSS _ hB1).2.1, (hSS _ hB1).2.2.2, cell_on hb1 q1 a0, cell_on hb1 q1 a1, cell_on hb1 q2 b0, cell_on hb1 q2 b1⟩ | fail)
            (first
              | (go_at_call 35; refine (hia b A' A2' c' c2' wr.drew i1 i2 s1.out s2.out).mono ?_; rintro e w1 ⟨rfl, hb1'⟩; have hb1 : Below wr.heap.size wr w1 := ⟨hb1'.os, hb1'.tape, hb1'.output, hb1'.size, hb1'.block⟩; have hB1 := bl_step hBr hb1; rw [h0])
              | fail)
          go_wp2
          go_roundw
          case rel =>
            refine ⟨k + 1, by omega, by omega, by go_num, hB1, fun j x y hj hx hy => ?_⟩
            by_cases e : j = k
            · subst e
              obtain ⟨e1, e2⟩ := Hab.out
              rw [hx] at e1; rw [hy] at e2
              cases e1; cases e2
              exact h0
            · exact H.out j x y (by omega) hx hy
          case measure => simp [intOf]; omega
        · have hcl := cmpL_hit Hab.out.1 Hab.out.2 H.out h0
          have hh2 := Lib.hid (show cmpT (.node f xs) (.node f ys) = cmpT a b by rw [cmpT_c hh (by rw [hcl]; exact h0), hcl])
          clear hcl
          go_wp2
          go_region_held3 (fun w' => w'.cell? ⟨w.heap.size, 1, none⟩ = some (.slice (some ⟨bb, off, none⟩) xs.length c) ∧ w'.cell? ⟨w.heap.size + 1, 1, none⟩ = some (.slice (some ⟨bb2, off2, none⟩) ys.length c2) ∧ w'.cell? ⟨bb, off + k * 2, none⟩ = some (.int .i64 a.fn) ∧ w'.cell? ⟨bb, off + k * 2 + 1, none⟩ = some (.slice A' a.args.length c') ∧ w'.cell? ⟨bb2, off2 + k * 2, none⟩ = some (.int .i64 b.fn) ∧ w'.cell? ⟨bb2, off2 + k * 2 + 1, none⟩ = some (.slice A2' b.args.length c2'))
            (first | exact ⟨x1, x3, a0, a1, b0, b1⟩ | exact ⟨(hSS _ hB1).2.1, (hSS _ hB1).2.2.2, cell_on hb1 q1 a0, cell_on hb1 q1 a1, cell_on hb1 q2 b0, cell_on hb1 q2 b1⟩ | fail)
            (first
              | (go_at_call 35; refine (hia b A' A2' c' c2' wr.drew i1 i2 s1.out s2.out).mono ?_; rintro e w1 ⟨rfl, hb1'⟩; have hb1 : Below wr.heap.size wr w1 := ⟨hb1'.os, hb1'.tape, hb1'.output, hb1'.size, hb1'.block⟩; have hB1 := bl_step hBr hb1)
              | fail)
          go_wp2
          go_ret
          exact ⟨ret_int hh2.out.symm, hB.trans (hB1.mono hB.size)⟩
      · have hcl : cmpL xs ys = 0 := cmpL_miss fun j x y hx hy => H.out j x y (by have h1 := (List.getElem?_eq_some_iff.1 hx).1; have h2 := (List.getElem?_eq_some_iff.1 hy).1; omega) hx hy
        have hh2 := Lib.hid (cmpT_n hh hcl : cmpT (.node f xs) (.node f ys) = numI xs.length ys.length)
        clear hcl
        rcases Nat.lt_trichotomy xs.length ys.length with h | h | h
        · have e : numI xs.length ys.length = -1 := by unfold numI; rw [if_pos (by omega)]
          have e := Lib.hid e
          go_wp2
          go_ret
          exact ⟨ret_int (by rw [hh2.out, e.out]), hB.trans (hBr.mono hB.size)⟩
        · have e : numI xs.length ys.length = 0 := by unfold numI; rw [if_neg (by omega), if_neg (by omega)]
          have e := Lib.hid e
          go_wp2
          go_ret
          exact ⟨ret_int (by rw [hh2.out, e.out]), hB.trans (hBr.mono hB.size)⟩
        · have e : numI xs.length ys.length = 1 := by unfold numI; rw [if_neg (by omega), if_pos (by omega)]
          have e := Lib.hid e
          go_wp2
          go_ret
          exact ⟨ret_int (by rw [hh2.out, e.out]), hB.trans (hBr.mono hB.size)⟩
  · have hh := Lib.hid ((cmpT_h (head_nz hfg) : cmpT (.node f xs) (.node g ys) = headI f g).trans (head_ne hfg))
    by_cases h1 : f < 0 ∧ g < 0
    · obtain ⟨h1, h2⟩ := h1
      by_cases h3 : g < f
      all_goals
        go_enter Tryd.func35, Tryd.ntmps35
        go_upto_region 1 with fail
        rw [HW.out]
        go_wp2
        go_ret
        exact ⟨ret_int (by rw [hh.out, if_pos ⟨h1, h2⟩]; first | rw [if_pos (by omega)] | rw [if_neg (by omega)]), hB⟩
    · by_cases h2 : f < 0
      · have h3 : ¬ g < 0 := fun e => h1 ⟨h2, e⟩
        have h4 : f < g := by omega
        go_enter Tryd.func35, Tryd.ntmps35
        go_upto_region 1 with fail
        rw [HW.out]
        go_wp2
        go_ret
        exact ⟨ret_int (by rw [hh.out, if_neg h1, if_pos h4]), hB⟩
      · by_cases h4 : f < g
        all_goals
          go_enter Tryd.func35, Tryd.ntmps35
          go_upto_region 1 with fail
          rw [HW.out]
          go_wp2
          go_ret
          exact ⟨ret_int (by rw [hh.out, if_neg h1]; first | rw [if_pos (by omega)] | rw [if_neg (by omega)]), hB⟩
theorem ref2Cmp_at (t u : Tm) (A A2 : Option Addr) (c c2 : Nat) (w : World) (hf : I64 t.fn) (hg : I64 u.fn) (hA : Args w w.heap.size A t.args) (hA2 : Args w w.heap.size A2 u.args) :
    Calls Tryd.prog 35 #[.agg #[.int .i64 t.fn, .slice A t.args.length c], .agg #[.int .i64 u.fn, .slice A2 u.args.length c2]] w fun e w' => e = .returned (.int .i64 (cmpT t u)) ∧ Below w.heap.size w w' :=
  ref2Cmp_any t u A A2 c c2 w hf hg hA hA2
theorem ref2Same_any' (t u : Tm) (A A2 : Option Addr) (c c2 : Nat) (w : World) (hf : I64 t.fn) (hg : I64 u.fn) (hA : Args w w.heap.size A t.args) (hA2 : Args w w.heap.size A2 u.args) :
    Calls Tryd.prog 14 #[.agg #[.int .i64 t.fn, .slice A t.args.length c], .agg #[.int .i64 u.fn, .slice A2 u.args.length c2]] w fun e w' => e = .returned (.bool (decide (cmpT t u = 0))) ∧ Below w.heap.size w w' := by
  have hWB : Below w.heap.size w ((w.alloc (.cells #[.int .i64 t.fn, .slice A t.args.length c] 37)).alloc (.cells #[.int .i64 u.fn, .slice A2 u.args.length c2] 37)) := ((Below.refl _ _).alloc (Nat.le_refl _) _).alloc (by simp) _
  go_enter Tryd.func14, Tryd.ntmps14
  go_wp2_with (first
    | (go_at_call 35; refine (ref2Cmp_at t u A A2 c c2 _ hf hg (hA.on hWB) (hA2.on hWB)).mono ?_; rintro e w1 ⟨rfl, hb1⟩; have hB1 := bl_step hWB hb1)
    | fail)
  go_ret
  exact ⟨rfl, hB1⟩
end Go.Proofs.YtmmiclpedehcpaaDoor
namespace Go.Proofs.YtmmiclpedehcpaaDoor
open Go Go.RowKit Go.Shelf Go.Maps
set_option maxRecDepth 100000
mutual
theorem addT_small {t : Tm} : ∀ {s : Tm} {ts : List Tm} {u : Tm}, s.size ≤ t.size → u ∈ addT ts s → u ∈ ts ∨ u.size ≤ t.size
  | .node f xs, ts, u, hs, hu => by
    rw [addT] at hu
    unfold ad1 at hu
    have hx : sizes xs ≤ t.size := by simp only [Tm.size] at hs; omega
    split at hu
    · exact addL_small hx hu
    · rcases List.mem_append.1 hu with hu | hu
      · exact addL_small hx hu
      · simp at hu; subst hu; exact .inr hs
theorem addL_small {t : Tm} : ∀ {xs ts : List Tm} {u : Tm}, sizes xs ≤ t.size → u ∈ addL ts xs → u ∈ ts ∨ u.size ≤ t.size
  | [], ts, u, _, hu => .inl hu
  | x :: xs, ts, u, hs, hu => by
    rw [addL] at hu
    simp only [sizes] at hs
    rcases addL_small (t := t) (by omega) hu with h | h
    · exact addT_small (by omega) h
    · exact .inr h
end
theorem bputT_small {sy : List Sm} {ts : List Tm} {t : Tm} (hs : ∀ u ∈ ts, u.size ≤ 300) : ∀ u ∈ bputT sy ts t, u.size ≤ 300 := fun u hu => by
  unfold bputT at hu
  split at hu
  · rename_i hc
    have := chk_300 hc
    rcases addT_small (t := t) (Nat.le_refl _) hu with h | h
    · exact hs u h
    · omega
  · exact hs u hu
theorem bputT_pre (sy : List Sm) (ts : List Tm) (t : Tm) : ∃ us, bputT sy ts t = ts ++ us ∧ us.length ≤ 300 := by
  unfold bputT
  split
  · rename_i hc
    have := chk_300 hc
    obtain ⟨us, e, h⟩ := addT_pre t ts
    exact ⟨us, e, by omega⟩
  · exact ⟨[], by simp, by simp⟩
theorem bputT_in {sy : List Sm} {ts : List Tm} {t : Tm} (hc : chkT sy t = 0) : t ∈ bputT sy ts t ∧ bputN sy ts t = idxT (bputT sy ts t) t := by
  unfold bputT bputN
  rw [if_pos hc, if_pos hc]
  exact ⟨addT_mem t ts, rfl⟩
structure ShI (W : World) (bx : Nat) (sy : List Sm) (A : Option Addr) (n c : Nat) (wr : World) (tag : Nat → Nat) (p : BPl) (ts : List Tm) (base : Nat) (v7 v8 : Value) (is : List Int) (tis : List Ti) : Prop where
  wk : WkI W bx sy A n c wr tag p ts
  r7 : IntsR wr base v7 is
  r8 : RowT wr base v8 tis (· < W.heap.size)
  z7 : ∀ g, v7.ownBlock = some g → tag g = 0
  z8 : ∀ g, v8.ownBlock = some g → tag g = 0
  d : ∀ g, v7.ownBlock = some g → v8.ownBlock ≠ some g
  b : W.heap.size ≤ base
  mem : ∀ x ∈ tis, x.t ∈ ts ∧ chkT sy x.t = 0
  sz : ∀ t ∈ ts, t.size ≤ 300
section
variable {W wr wy : World} {bx n c base : Nat} {sy : List Sm} {A : Option Addr} {tag : Nat → Nat} {p : BPl} {ts : List Tm} {v7 v8 : Value} {is : List Int} {tis : List Ti}
theorem ShI.on (h : ShI W bx sy A n c wr tag p ts base v7 v8 is tis) (hb : Below wr.heap.size wr wy) : ShI W bx sy A n c wy tag p ts base v7 v8 is tis :=
  ⟨h.wk.on hb, h.r7.on hb, h.r8.keep (fun g e => hb.block g (row_lt h.r8.row g e).2) (fun g e => hb.block g (Nat.lt_of_lt_of_le e h.wk.low.size)), h.z7, h.z8, h.d, h.b, h.mem, h.sz⟩
theorem ShI.grew {tag' : Nat → Nat} {p' : BPl} {ts' us : List Tm} {N : Nat} (h : ShI W bx sy A n c wr tag p ts base v7 v8 is tis) (hk : WkI W bx sy A n c wy tag' p' ts') (hg : Grew wr wy tag tag' p p' N) (hp : ts' = ts ++ us) (hs : ∀ t ∈ ts', t.size ≤ 300) :
    ShI W bx sy A n c wy tag' p' ts' base v7 v8 is tis := by
  have k7 : ∀ g, v7.ownBlock = some g → wy.heap[g]? = wr.heap[g]? := fun g e => hg.k.block (row_lt h.r7.row g e).2 fun e2 => e2 (h.z7 g e)
  have k8 : ∀ g, v8.ownBlock = some g → wy.heap[g]? = wr.heap[g]? := fun g e => hg.k.block (row_lt h.r8.row g e).2 fun e2 => e2 (h.z8 g e)
  refine ⟨hk, ⟨row_keep h.r7.row k7, h.r7.i64⟩, h.r8.keep k8 (fun g e => hg.k.block (Nat.lt_of_lt_of_le e h.wk.low.size) fun e2 => e2 (h.wk.z g e)), fun g e => (hg.t g (row_lt h.r7.row g e).2).trans (h.z7 g e), fun g e => (hg.t g (row_lt h.r8.row g e).2).trans (h.z8 g e), h.d, h.b, fun x hx => ?_, hs⟩
  obtain ⟨h1, h2⟩ := h.mem x hx
  exact ⟨by rw [hp]; exact List.mem_append_left _ h1, h2⟩
theorem idx_grew {ts us : List Tm} (hm : ∀ x ∈ tis, x.t ∈ ts) : (tis.map fun x => ((idxT (ts ++ us) x.t : Nat) : Int)) = tis.map fun x => ((idxT ts x.t : Nat) : Int) := List.map_congr_left fun x hx => by rw [idxT_pre (hm x hx)]
theorem wk_tag0 {wy : World} (h : WkI W bx sy A n c wr tag p ts) (hs : wr.heap.size ≤ wy.heap.size) (hl : Below W.heap.size wr wy) (hk : ∀ g, g < wr.heap.size → tag g ≠ 0 → wy.heap[g]? = wr.heap[g]?) (ht : 0 < W.heap.size) : WkI W bx sy A n c wy tag p ts :=
  ⟨bank_tag0 h.b hs hk, ⟨tru_on h.t.t hl ht, h.t.z⟩, h.low.trans hl, h.z, h.bx⟩
theorem ShI.push7 {w5 : World} {v5 : Value} {z : Int} {ob : Obj} (h : ShI W bx sy A n c wr tag p ts base v7 v8 is tis) (ht : 0 < W.heap.size) (hz : I64 z) (hown : w5.ownsRow base 3 1 v5 (is.length + 1) (is.map (Value.int .i64) ++ [.int .i64 z])) (hgr : (wr.alloc ob).grownBy w5 v7.ownBlock) (hat : v5.ownBlock = v7.ownBlock ∨ v5.ownBlock = some (wr.alloc ob).heap.size) :
    ShI W bx sy A n c w5 tag p ts base v5 v8 (is ++ [z]) tis := by
  have s5 : wr.heap.size + 1 ≤ w5.heap.size := by simpa using hgr.size
  have hlo := h.wk.low.size
  have hk : ∀ g, g < wr.heap.size → v7.ownBlock ≠ some g → w5.heap[g]? = wr.heap[g]? := fun g h1 h2 => (hgr.block g (by simp; omega) (fun e => h2 e.symm)).trans (Below.heap_alloc wr ob g h1)
  have hb := h.b
  have hlB : Below W.heap.size wr w5 := ⟨by rw [hgr.os]; rfl, by rw [hgr.tape]; rfl, by rw [hgr.output]; rfl, by omega, fun g hg => hk g (by omega) fun e => by have := (row_lt h.r7.row g e).1; omega⟩
  have hv5 : ∀ g, v5.ownBlock = some g → v7.ownBlock = some g ∨ wr.heap.size ≤ g := fun g e => by
    rcases hat with h1 | h1
    · exact .inl (h1 ▸ e)
    · rw [h1] at e; injection e with e; simp at e; exact .inr (by omega)
  refine ⟨wk_tag0 h.wk (by omega) hlB (fun g h1 h2 => hk g h1 fun e => h2 (h.z7 g e)) ht, ⟨by simpa using hown, fun x hx => ?_⟩, h.r8.keep (fun g e => hk g (row_lt h.r8.row g e).2 fun e2 => h.d g e2 e) (fun g e => hk g (Nat.lt_of_lt_of_le e hlo) fun e2 => by have := (row_lt h.r7.row g e2).1; omega), fun g e => ?_, h.z8, fun g e e2 => ?_, h.b, h.mem, h.sz⟩
  · rcases List.mem_append.1 hx with hx | hx
    · exact h.r7.i64 x hx
    · simp at hx; subst hx; exact hz
  · rcases hv5 g e with h1 | h1
    · exact h.z7 g h1
    · exact h.wk.b.hi g h1
  · rcases hv5 g e with h1 | h1
    · exact h.d g h1 e2
    · have := (row_lt h.r8.row g e2).2; omega
theorem ShI.push8 {w5 : World} {v5 : Value} {x : Ti} {ob : Obj} (h : ShI W bx sy A n c wr tag p ts base v7 v8 is tis) (ht : 0 < W.heap.size) (hx : I64 x.t.fn) (hxA : ArgsN wr (· < W.heap.size) x.A x.t.args) (hm : x.t ∈ ts ∧ chkT sy x.t = 0) (hown : w5.ownsRow base 37 2 v5 (tis.length + 1) (tis.flatMap Ti.cells ++ x.cells)) (hgr : (wr.alloc ob).grownBy w5 v8.ownBlock) (hat : v5.ownBlock = v8.ownBlock ∨ v5.ownBlock = some (wr.alloc ob).heap.size) :
    ShI W bx sy A n c w5 tag p ts base v7 v5 is (tis ++ [x]) := by
  have s5 : wr.heap.size + 1 ≤ w5.heap.size := by simpa using hgr.size
  have hlo := h.wk.low.size
  have hk : ∀ g, g < wr.heap.size → v8.ownBlock ≠ some g → w5.heap[g]? = wr.heap[g]? := fun g h1 h2 => (hgr.block g (by simp; omega) (fun e => h2 e.symm)).trans (Below.heap_alloc wr ob g h1)
  have hb := h.b
  have hlB : Below W.heap.size wr w5 := ⟨by rw [hgr.os]; rfl, by rw [hgr.tape]; rfl, by rw [hgr.output]; rfl, by omega, fun g hg => hk g (by omega) fun e => by have := (row_lt h.r8.row g e).1; omega⟩
  have hv5 : ∀ g, v5.ownBlock = some g → v8.ownBlock = some g ∨ wr.heap.size ≤ g := fun g e => by
    rcases hat with h1 | h1
    · exact .inl (h1 ▸ e)
    · rw [h1] at e; injection e with e; simp at e; exact .inr (by omega)
  have hkW : ∀ g, g < W.heap.size → w5.heap[g]? = wr.heap[g]? := fun g e => hk g (Nat.lt_of_lt_of_le e hlo) fun e2 => by have := (row_lt h.r8.row g e2).1; omega
  refine ⟨wk_tag0 h.wk (by omega) hlB (fun g h1 h2 => hk g h1 fun e => h2 (h.z8 g e)) ht, ⟨row_keep h.r7.row fun g e => hk g (row_lt h.r7.row g e).2 (h.d g e), h.r7.i64⟩, h.r8.push hown hx (hxA.keep hkW) hkW (fun _ e => e), h.z7, fun g e => ?_, fun g e e2 => ?_, h.b, fun y hy => ?_, h.sz⟩
  · rcases hv5 g e with h1 | h1
    · exact h.z8 g h1
    · exact h.wk.b.hi g h1
  · rcases hv5 g e2 with h1 | h1
    · exact h.d g e h1
    · have := (row_lt h.r7.row g e).2; omega
  · rcases List.mem_append.1 hy with hy | hy
    · exact h.mem y hy
    · simp at hy; subst hy; exact hm
theorem bkAt_idx {t : Tm} (h : t ∈ ts) : bkAt ts ((idxT ts t : Nat) : Int) = some t := by
  unfold bkAt
  rw [if_pos (by omega), Int.toNat_natCast]
  exact idxT_at h
theorem ShI.get (h : ShI W bx sy A n c wr tag p ts base v7 v8 is tis) {t : Tm} (ht : t ∈ ts) : Calls Tryd.prog 21 #[.pointer (some ⟨bx, 0, none⟩), .int .i64 ((idxT ts t : Nat) : Int)] wr fun e w' => ∃ A' c', e = .returned (.tuple #[.agg #[.int .i64 t.fn, .slice A' t.args.length c'], .int .i64 0]) ∧ ArgsN w' (fun g => wr.heap.size ≤ g ∧ g < w'.heap.size) A' t.args ∧ Below wr.heap.size wr w' := by
  have := bGet_at h.wk.b (fun u hu => by have := h.sz u hu; omega) ((idxT ts t : Nat) : Int)
  rw [h.wk.bx] at this
  refine this.mono ?_
  rintro e w' ⟨hb, he⟩
  rw [bkAt_idx ht] at he
  obtain ⟨A', c', rfl, hA⟩ := he
  exact ⟨A', c', rfl, hA, hb⟩
theorem ShI.find (h : ShI W bx sy A n c wr tag p ts base v7 v8 is tis) (hn : n * 32 ≤ 140737488351232) (hts : ts.length + 300 ≤ 2147483648) {t : Tm} (ht : t ∈ ts) (hc : chkT sy t = 0) {At : Option Addr} {ct : Nat} {N : Nat → Prop} (hf : I64 t.fn) (hA : ArgsN wr N At t.args) (hN : ∀ g, N g → g < wr.heap.size ∧ tag g = 0) :
    Calls Tryd.prog 16 #[.pointer (some ⟨bx, 0, none⟩), .agg #[.int .i64 t.fn, .slice At t.args.length ct]] wr fun e w' => ∃ p' tag', e = .returned (.tuple #[.int .i64 ((idxT ts t : Nat) : Int), .bool true]) ∧ ShI W bx sy A n c w' tag' p' ts base v7 v8 is tis ∧ Grew wr w' tag tag' p p' ts.length := by
  have := bFind_any (c := ct) h.wk.b h.wk.t hn hts hf hA hN
  rw [h.wk.bx] at this
  refine this.mono ?_
  rintro e w' ⟨p', tag', rfl, hB, hG⟩
  have hfo : bfindO sy ts t = true := by unfold bfindO; rw [decide_eq_true hc, decide_eq_true (idxT_lt.2 ht)]; rfl
  exact ⟨p', tag', by rw [hfo]; rfl, h.grew (h.wk.grew hB hG) hG (us := []) (by simp) h.sz, hG⟩
theorem ShI.args (h : ShI W bx sy A n c wr tag p ts base v7 v8 is tis) (hts : ts.length ≤ 2147483648) {t : Tm} (ht : t ∈ ts) : Calls Tryd.prog 22 #[.pointer (some ⟨bx, 0, none⟩), .int .i64 ((idxT ts t : Nat) : Int)] wr fun e w' => ∃ A' c', e = .returned (.slice A' t.args.length c') ∧ IntsR w' wr.heap.size (.slice A' t.args.length c') ((numsT ts t.args).map Int.ofNat) ∧ Below wr.heap.size wr w' := by
  have hl : t.args.length ≤ 1048576 := by
    have h1 := sizes_len t.args
    have h2 : t.size = sizes t.args + 1 := by cases t; simp [Tm.size, Tm.args]
    have h3 := h.sz t ht
    omega
  have := bArgs_any h.wk.b (idxT_at ht) hts hl
  rw [h.wk.bx] at this
  refine this.mono ?_
  rintro e w' ⟨v, rfl, hI, hb⟩
  obtain ⟨A', c', rfl⟩ := row_slice hI.row
  have hln : ((numsT ts t.args).map Int.ofNat).length = t.args.length := by simp [numsT]
  rw [hln] at hI
  refine ⟨A', c', ?_, hI, hb⟩
  rw [hln]
end
end Go.Proofs.YtmmiclpedehcpaaDoor
namespace Go.Proofs.YtmmiclpedehcpaaDoor
open Go Go.RowKit Go.Shelf Go.Maps
set_option maxRecDepth 100000
theorem ids_eq {ts : List Tm} {a b : Tm} (ha : a ∈ ts) (hb : b ∈ ts) : decide (((idxT ts a : Nat) : Int) = ((idxT ts b : Nat) : Int)) = decide (cmpT a b = 0) := by
  rw [decide_eq_decide]
  constructor
  · intro h
    have h1 := idxT_at ha
    have h2 := idxT_at hb
    have h3 : idxT ts a = idxT ts b := by omega
    rw [h3, h2] at h1
    injection h1 with h1
    rw [h1]; exact cmp_zero_iff.2 rfl
  · intro h
    rw [cmp_zero_iff] at h
    rw [h]
theorem rowT_get {w : World} {base : Nat} {v : Value} {l : List Ti} {N : Nat → Prop} (h : RowT w base v l N) {i : Nat} {x : Ti} (hx : l[i]? = some x) : ∃ g c, v = .slice (some ⟨g, 0, none⟩) l.length c ∧ g < w.heap.size ∧ w.cell? ⟨g, i * 2, none⟩ = some (.int .i64 x.t.fn) ∧ w.cell? ⟨g, i * 2 + 1, none⟩ = some (.slice x.A x.t.args.length x.c) := by
  have hlt := (List.getElem?_eq_some_iff.1 hx).1
  rcases h.row.2 with ⟨_, h0⟩ | ⟨g, cap, cur, rfl, hb, hg, _⟩
  · omega
  · have hfl : (l.flatMap Ti.cells).length = l.length * 2 := h.row.1
    have e0 : (l.flatMap Ti.cells)[i * 2]? = some (.int .i64 x.t.fn) := by
      have := ti_get l i 0 (by omega)
      rw [Nat.add_zero] at this
      rw [this, hx]; rfl
    have e1 : (l.flatMap Ti.cells)[i * 2 + 1]? = some (.slice x.A x.t.args.length x.c) := by
      rw [ti_get l i 1 (by omega), hx]; rfl
    exact ⟨g, cap, rfl, (Array.getElem?_eq_some_iff.1 hg).1, (h.row.cellAt (i * 2) (by omega)).trans e0, (h.row.cellAt (i * 2 + 1) (by omega)).trans e1⟩
set_option maxHeartbeats 16000000 in
theorem BankShares_any (sy : List Sm) (As : Option Addr) (n cs : Nat) (l : List Tm) (Al : Option Addr) (cl : Nat) (w : World) (hS : Syms w w.heap.size As n sy) (hn : n * 32 ≤ 140737488351232) (ht : tru w) (hA : Args w w.heap.size Al l) :
    Calls Tryd.prog 5 #[.agg #[.slice As n cs], .slice Al l.length cl] w fun e w' => e = .returned (.bool true) ∧ Below w.heap.size w w' := by
  obtain ⟨i0, hi, hz0, hz1, hz2⟩ := info_parts info_int
  obtain ⟨t0, hti, htz0, htz1, htz2⟩ := info_parts info_term
  obtain ⟨W, hW⟩ : ∃ W, w.alloc (.cells #[.slice As n cs] 24) = W := ⟨_, rfl⟩
  have hB : Below w.heap.size w W := by rw [← hW]; exact (Below.refl _ _).alloc (Nat.le_refl _) _
  have q0 := heap_alloc_new w (.cells #[.slice As n cs] 24)
  rw [hW] at q0
  have hql := (Array.getElem?_eq_some_iff.1 q0).1
  have x0 := (cells_one q0).1
  have HW := Lib.hid hW
  have htl := ht.2.2.2
  have HWk : Hid (∀ x, Below w.heap.size w x → Calls Tryd.prog 7 #[] x fun e w' => e = .returned (.bool true) ∧ Below x.heap.size x w') := Lib.hid fun x hx => bwakes_any x (tru_below ht hx)
  by_cases hc : chkT sy (.node 0 []) = 0
  case neg =>
    have HN := Lib.hid (bNew_no (cs := cs) (hS.on hB) hn (tru_below ht hB) hc)
    obtain ⟨ck, hck⟩ : ∃ ck, chkT sy (.node 0 []) = ck := ⟨_, rfl⟩
    rw [hck] at hc HN
    have g0 : (ck != 0) = true := by simpa using hc
    clear hc hck hS ht hA hW q0
    go_enter Tryd.func5, Tryd.ntmps5
    go_upto_region 1 with (fail)
    rw [HW.out]
    go_wp2_with (first
      | (go_at_call 8; (with_reducible refine HN.out.mono ?_); go_must (rintro e w1 ⟨rfl, hb1⟩; have hb1' := hB.trans (hb1.mono hB.size); have HK := Lib.hid (HWk.out w1 hb1')))
      | (go_at_call 7; (with_reducible refine HK.out.mono ?_); go_must (rintro e w2 ⟨rfl, hb2⟩))
      | fail)
    go_ret
    exact ⟨rfl, hb1'.trans (hb2.mono hb1'.size)⟩
  case pos =>
    have HN := Lib.hid (bNew_yes (cs := cs) (hS.on hB) hn (tru_below ht hB) hc)
    have HA := Lib.hid hA.toN
    have HTr := Lib.hid ht
    clear hc hS ht hA hW q0
    by_cases hl40 : l.length ≤ 40
    case neg =>
      have g1 : decide ((40 : Int) < (l.length : Int)) = true := decide_eq_true (by omega)
      have g2 : (40 : Int) < (l.length : Int) := by omega
      clear hl40
      go_enter Tryd.func5, Tryd.ntmps5
      go_upto_region 1 with (fail)
      rw [HW.out]
      go_wp2_with (first
        | (go_at_call 8; (with_reducible refine HN.out.mono ?_); go_must (rintro e w1 ⟨b2, A2, c2, tag2, rfl, _, _, hb1⟩; have hb1' := hB.trans (hb1.mono hB.size); have HK := Lib.hid (HWk.out w1 hb1')))
        | (go_at_call 7; (with_reducible refine HK.out.mono ?_); go_must (rintro e w2 ⟨rfl, hb2⟩))
        | fail)
      go_ret
      exact ⟨rfl, hb1'.trans (hb2.mono hb1'.size)⟩
    case pos =>
      have g1 : decide ((40 : Int) < (l.length : Int)) = false := decide_eq_false (by omega)
      have g2 : ¬ (40 : Int) < (l.length : Int) := by omega
      go_enter Tryd.func5, Tryd.ntmps5
      go_upto_region 1 with (fail)
      rw [HW.out]
      go_wp2_with (first
        | (go_at_call 8; (with_reducible refine HN.out.mono ?_); go_must (rintro e w1 ⟨b2, A2, c2, tag2, rfl, hB2, hz2, hb1⟩; have hb1' := hB.trans (hb1.mono hB.size); have HI2 : Hid (ShI w (newP b2).bx sy A2 n c2 w1 tag2 (newP b2) [] w1.heap.size (.slice none 0 0) (.slice none 0 0) [] []) := Lib.hid ⟨⟨hB2, ⟨tru_below HTr.out hb1', hz2 _ (by have := hB.size; omega)⟩, hb1', fun g e => hz2 g (by have := hB.size; omega), rfl⟩, ⟨⟨rfl, .inl ⟨rfl, rfl⟩⟩, fun x hx => by simp at hx⟩, RowT.nil_ _ _ _, fun g e => by simp [Value.ownBlock] at e, fun g e => by simp [Value.ownBlock] at e, fun g e => by simp [Value.ownBlock] at e, hb1'.size, fun x hx => by simp at hx, fun t hx => by simp at hx⟩; clear hB2 hz2))
        | fail)
      obtain ⟨p2, hp2⟩ : ∃ p2, newP b2 = p2 := ⟨_, rfl⟩
      rw [hp2] at HI2 ⊢
      obtain ⟨bx, hbx⟩ : ∃ bx, p2.bx = bx := ⟨_, rfl⟩
      rw [hbx] at HI2 ⊢
      obtain ⟨base, hbase⟩ : ∃ base, w1.heap.size = base := ⟨_, rfl⟩
      rw [hbase] at HI2
      have hbs : base ≤ w1.heap.size := Nat.le_of_eq hbase.symm
      clear hp2 hbx hbase g1 g2 HN hb1
      go_loopw [7, 8, 9] (fun v7 v8 i wr => ∃ (j : Nat) (tagr : Nat → Nat) (pr : BPl) (ts : List Tm) (is : List Int) (tis : List Ti), j ≤ l.length ∧ i = .int .i64 (j : Int) ∧ Hid (ShI w bx sy A2 n c2 wr tagr pr ts base v7 v8 is tis ∧ is = (tis.map fun x => ((idxT ts x.t : Nat) : Int)) ∧ ts.length ≤ 300 * j ∧ tis.length ≤ j ∧ base ≤ wr.heap.size)) (fun _ _ i _ => l.length - (intOf i).toNat)
      case atStart => exact ⟨0, tag2, p2, [], [], [], Nat.zero_le _, rfl, Lib.hid ⟨HI2.out, rfl, by simp, by simp, hbs⟩⟩
      case round =>
        obtain ⟨j, tagr, pr, ts, is, tis, hj, rfl, H⟩ := hrel
        by_cases hlt : j < l.length
        case pos =>
          obtain ⟨a, ha⟩ : ∃ a, l[j]? = some a := ⟨_, List.getElem?_eq_getElem hlt⟩
          obtain ⟨H1, hid, htsl, hisl, hbr⟩ := H.out
          obtain ⟨A7, c7, hv7⟩ := row_slice H1.r7.row
          obtain ⟨A8, c8, hv8⟩ := row_slice H1.r8.row
          subst hv7
          subst hv8
          have Hlis := Lib.hid (show is.length = tis.length by rw [hid, List.length_map])
          obtain ⟨bb, off, A1, c1, rfl, haa⟩ := HA.out.get ha
          have e0 := (World.cell?_of_block (H1.wk.low.block _ haa.hb)).trans haa.c0
          have e1 := (World.cell?_of_block (H1.wk.low.block _ haa.hb)).trans haa.c1
          have hi64 := haa.hi
          have hsub := haa.sub.keep (w' := wr) fun g e => H1.wk.low.block g e
          have Hsub := Lib.hid haa.sub
          have hlt2 : (j : Int) < (l.length : Int) := by omega
          have hwr1 : IntKind.i64.wrap ((j : Int) + 1) = (j : Int) + 1 := by rw [IntKind.wrap_i64]; omega
          have hP := H1.wk.put (t := a) (ct := c1) hn (by omega) hi64 hsub (fun g e => ⟨Nat.lt_of_lt_of_le e H1.wk.low.size, H1.wk.z g e⟩)
          obtain ⟨us, hus, hul⟩ := bputT_pre sy ts a
          have hsz := bputT_small (sy := sy) (t := a) H1.sz
          have HPs : Hid (Calls Tryd.prog 12 #[.pointer (some ⟨bx, 0, none⟩), .agg #[.int .i64 a.fn, .slice A1 a.args.length c1]] wr fun e w' => ∃ p' tag', e = .returned (.tuple #[.int .i64 ((bputN sy ts a : Nat) : Int), .int .i64 (chkT sy a)]) ∧ ShI w bx sy A2 n c2 w' tag' p' (bputT sy ts a) base (.slice A7 is.length c7) (.slice A8 tis.length c8) is tis ∧ is = (tis.map fun x => ((idxT (bputT sy ts a) x.t : Nat) : Int)) ∧ base ≤ w'.heap.size) := Lib.hid (hP.mono (by
            rintro e w' ⟨p', tag', rfl, hk, hg⟩
            refine ⟨p', tag', rfl, H1.grew hk hg hus hsz, ?_, Nat.le_trans hbr hg.k.size⟩
            rw [hid, hus]
            exact (idx_grew fun x hx => (H1.mem x hx).1).symm))
          by_cases hca : chkT sy a = 0
          case neg =>
            obtain ⟨ck, hck⟩ : ∃ ck, chkT sy a = ck := ⟨_, rfl⟩
            rw [hck] at HPs hca
            have g0 : (ck != 0) = true := by simpa using hca
            have Hts : Hid ((bputT sy ts a).length ≤ 300 * (j + 1)) := Lib.hid (by rw [hus, List.length_append]; omega)
            clear hP hsub haa hck hca H H1 hid
            go_wp2_with (first
              | (go_at_call 12; (with_reducible refine HPs.out.mono ?_); go_must (rintro e w2 ⟨p3, tag3, rfl, hI3, hid3, hb3⟩; have HI3 := Lib.hid (And.intro hI3 hid3); clear hI3 hid3))
              | fail)
            go_roundw
            case rel => exact ⟨j + 1, tag3, p3, _, _, _, by omega, by go_num, Lib.hid ⟨HI3.out.1, HI3.out.2, Hts.out, by omega, hb3⟩⟩
            case measure => simp [intOf]; omega
          case pos =>
            rw [hca] at HPs
            obtain ⟨hin2, hq2⟩ := bputT_in (ts := ts) hca
            have Hts : Hid ((bputT sy ts a).length ≤ 300 * (j + 1)) := Lib.hid (by rw [hus, List.length_append]; omega)
            obtain ⟨ts2, hts2⟩ : ∃ ts2, bputT sy ts a = ts2 := ⟨_, rfl⟩
            obtain ⟨q, hq⟩ : ∃ q, bputN sy ts a = q := ⟨_, rfl⟩
            rw [hts2, hq] at HPs hq2
            rw [hts2] at hin2 Hts
            have hql2 : q < ts2.length := by rw [hq2]; exact idxT_lt.2 hin2
            have htl2 := Hts.out
            have Hin := Lib.hid hin2
            have Hq := Lib.hid hq2
            have He : Hid (∀ x, Below w.heap.size w x → x.cell? ⟨bb, off + j * 2, none⟩ = some (.int .i64 a.fn) ∧ x.cell? ⟨bb, off + j * 2 + 1, none⟩ = some (.slice A1 a.args.length c1)) := Lib.hid fun x hx => ⟨(World.cell?_of_block (hx.block _ haa.hb)).trans haa.c0, (World.cell?_of_block (hx.block _ haa.hb)).trans haa.c1⟩
            have Hca := Lib.hid hca
            clear hP hsub haa H H1 hid hus hul hsz hts2 hq hq2 hin2 hca
            go_wp2_with (first
              | (go_at_call 12; (with_reducible refine HPs.out.mono ?_); go_must (rintro e w2 ⟨p3, tag3, rfl, hI3, hid3, hb3⟩; have HI3 := Lib.hid hI3; have Hid3 := Lib.hid hid3; have HB2 := Lib.hid hb3; clear hI3 hid3 hb3))
              | fail)
            clear e0 e1
            have Hbw : Hid (∀ x, Below w2.heap.size w2 x → base ≤ x.heap.size) := Lib.hid fun x hx => Nat.le_trans HB2.out hx.size
            go_loopw [12] (fun i wi => ∃ (k : Nat), k ≤ is.length ∧ i = .int .i64 (k : Int) ∧ Below w2.heap.size w2 wi) (fun i _ => is.length - (intOf i).toNat)
            case atStart => exact ⟨0, Nat.zero_le _, rfl, Below.refl _ _⟩
            case round =>
              obtain ⟨k, hk, rfl, hBi⟩ := hrel
              by_cases hkl : k < is.length
              case pos =>
                have hwi := hBi.size
                obtain ⟨y, hy⟩ : ∃ y, tis[k]? = some y := ⟨_, List.getElem?_eq_getElem (by have := Hlis.out; omega)⟩
                have hyis : is[k]? = some ((idxT ts2 y.t : Nat) : Int) := by rw [Hid3.out, List.getElem?_map, hy]; rfl
                have hmy := HI3.out.mem y (List.mem_of_getElem? hy)
                have HIi : Hid (∀ x : Later wr.heap.size wr, ShI w bx sy A2 n c2 x.w tag3 p3 ts2 base (.slice A7 is.length c7) (.slice A8 tis.length c8) is tis) := Lib.hid fun x => HI3.out.on (hBi.trans (x.h.mono hwi))
                obtain ⟨g7, c7', hg7, _, _⟩ := (HIi.out ⟨wr, Below.refl _ _⟩).r7.get hyis
                obtain ⟨g8, c8', hg8, _, _⟩ := rowT_get (HIi.out ⟨wr, Below.refl _ _⟩).r8 hy
                injection hg7 with hg7 hg71 hg72
                injection hg8 with hg8 hg81 hg82
                clear hg71 hg72 hg81 hg82
                subst hg7
                subst hg8
                have m7 : ∀ x : Later wr.heap.size wr, x.w.cell? ⟨g7, k, none⟩ = some (.int .i64 ((idxT ts2 y.t : Nat) : Int)) := fun x => by
                  obtain ⟨g, c', e, _, hc⟩ := (HIi.out x).r7.get hyis
                  injection e with e _ _; injection e with e; injection e with e _ _; subst e; exact hc
                have m8 : ∀ x : Later wr.heap.size wr, x.w.cell? ⟨g8, k * 2, none⟩ = some (.int .i64 y.t.fn) ∧ x.w.cell? ⟨g8, k * 2 + 1, none⟩ = some (.slice y.A y.t.args.length y.c) := fun x => by
                  obtain ⟨g, c', e, _, h1, h2⟩ := rowT_get (HIi.out x).r8 hy
                  injection e with e _ _; injection e with e; injection e with e _ _; subst e; exact ⟨h1, h2⟩
                have m80 := fun x => (m8 x).1
                have m81 := fun x => (m8 x).2
                have m90 : ∀ x : Later wr.heap.size wr, x.w.cell? ⟨bb, off + j * 2, none⟩ = some (.int .i64 a.fn) := fun x => (He.out x.w (HIi.out x).wk.low).1
                have m91 : ∀ x : Later wr.heap.size wr, x.w.cell? ⟨bb, off + j * 2 + 1, none⟩ = some (.slice A1 a.args.length c1) := fun x => (He.out x.w (HIi.out x).wk.low).2
                have hieq := ids_eq hmy.1 Hin.out
                rw [← Hq.out] at hieq
                obtain ⟨bq, hbq⟩ : ∃ bq, decide (cmpT y.t a = 0) = bq := ⟨_, rfl⟩
                rw [hbq] at hieq
                have HSm := Lib.hid fun x : Later wr.heap.size wr => by
                  have := ref2Same_any' y.t a y.A A1 y.c c1 x.w ((HIi.out x).r8.i64 y (List.mem_of_getElem? hy)) hi64 (((HIi.out x).r8.sub y (List.mem_of_getElem? hy)).args fun g e => Nat.lt_of_lt_of_le e (HIi.out x).wk.low.size) ((Hsub.out.keep fun g e => (HIi.out x).wk.low.block g e).args fun g e => Nat.lt_of_lt_of_le e (HIi.out x).wk.low.size)
                  rw [hbq] at this
                  exact this
                obtain ⟨iy, hiy⟩ : ∃ iy, idxT ts2 y.t = iy := ⟨_, rfl⟩
                rw [hiy] at m7 hieq
                have hieq2 : decide (iy = q) = bq := by rw [← hieq]; exact decide_eq_decide.2 (by omega)
                have hieq3 : ((iy : Int) == (q : Int)) = bq := by rw [← hieq]; rfl
                have hk7 : (k : Int) < (is.length : Int) := by omega
                have hk8 : (k : Int) < (tis.length : Int) := by have := Hlis.out; omega
                have hk7' : k < is.length := hkl
                have hk8' : k < tis.length := by have := Hlis.out; omega
                have hwrk : IntKind.i64.wrap ((k : Int) + 1) = (k : Int) + 1 := by rw [IntKind.wrap_i64]; omega
                clear hy hyis hmy hiy hbq m8 HIi
                go_wp2
                refine wp_region_later wr.heap.size wr (by kernel_rfl) (by kernel_rfl) (bl_drewN (Below.refl _ _) 1) ?_
                repeat (go_big_quiet_step (first
                  | (go_at_call 14; with_reducible refine calls_later _ (Nat.le_refl _) (HSm.out _))
                  | fail))
                refine wpQuiet_nil ?_
                rintro _ ⟨z, rfl⟩
                have hzB := hBi.trans (z.h.mono hwi)
                clear HSm m7 m80 m81 m90 m91
                go_wp2
                go_roundw
                case rel => exact ⟨k + 1, by omega, by go_num, hzB⟩
                case measure => simp [intOf]; omega
              case neg =>
                obtain rfl : k = is.length := by omega
                have hIi := HI3.out.on hBi
                have HIi := Lib.hid hIi
                obtain ⟨e0, e1⟩ := He.out wr hIi.wk.low
                have hrl7 := row_lt hIi.r7.row
                have hrl8 := row_lt hIi.r8.row
                have hbse := hIi.b
                have hrow7 := hIi.r7.row
                have Hrow7 := Lib.hid hrow7
                have hlow := hIi.wk.low.size
                clear hIi hrow7
                have hli := Hlis.out
                have hpz : Hid (ArgsN wr (· < w.heap.size) A1 a.args) := Lib.hid (Hsub.out.keep fun g e => HIi.out.wk.low.block g e)
                have hbw : base ≤ wr.heap.size := Hbw.out wr hBi
                clear hli
                go_wp2_with (first
                  | (at_builtin
                     go_must (
                     first
                       | (refine wpList_append_own_at _ rfl _ _ 38 rfl base 3 i0 (.int .i64 0) 1 8 Tryd.underlying38 hi hz0 hz1 hz2 rfl (by decide) (.slice A7 is.length c7) is.length _ rfl (row_keep Hrow7.out fun g e => Below.heap_alloc wr _ g (hrl7 g e).2) ⟨wr.heap.size, 0, none⟩ 1 1 [.int .i64 (q : Int)] rfl rfl (cell_one_new _ _ _) (by simp [Value.oneCell']) (by unfold maxLen; have := Hlis.out; omega) (by have := Hlis.out; omega) (by simp; omega) ?_
                          intro v5 w5 hown5 hgr5 _ hat5
                          obtain ⟨A5, c5x, rfl⟩ := row_slice hown5
                          have HI5 := Lib.hid (HIi.out.push7 htl (z := (q : Int)) ⟨by omega, by omega⟩ hown5 hgr5 hat5)
                          have hw5 : base ≤ w5.heap.size := by have := hgr5.size; simp at this; omega
                          obtain ⟨e2, e3⟩ := He.out w5 HI5.out.wk.low
                          have hrl85 := row_lt HI5.out.r8.row
                          clear hown5 hgr5 hat5)
                       | (refine wpList_append_own_at _ rfl _ _ 35 rfl base 37 t0 (.agg #[.int .i64 0, .slice none 0 0]) 2 32 Tryd.underlying35 hti htz0 htz1 htz2 rfl (by decide) (.slice A8 tis.length c8) tis.length _ rfl (row_keep HI5.out.r8.row fun g e => Below.heap_alloc w5 _ g (hrl85 g e).2) ⟨w5.heap.size, 0, none⟩ 1 1 [.int .i64 a.fn, .slice A1 a.args.length c1] rfl rfl (cells_new_two _ _ _ _) (by simp [Value.oneCell']) (by unfold maxLen; omega) (by omega) (by simp; omega) ?_
                          intro v6 w6 hown6 hgr6 _ hat6
                          obtain ⟨A6, c6x, rfl⟩ := row_slice hown6
                          have HI6 := Lib.hid (HI5.out.push8 htl (x := ⟨a, A1, c1⟩) hi64 (Hsub.out.keep fun g e => HI5.out.wk.low.block g e) ⟨Hin.out, Hca.out⟩ hown6 hgr6 hat6)
                          have hb6 : base ≤ w6.heap.size := by have := hgr6.size; simp at this; omega
                          clear hown6 hgr6 hat6)))
                  | fail)
                go_roundw
                case rel =>
                  refine ⟨j + 1, tag3, p3, ts2, _, _, by omega, by go_num, Lib.hid ⟨HI6.out, ?_, Hts.out, by simp; omega, hb6⟩⟩
                  rw [List.map_append, Hid3.out, Hq.out]; rfl
                case measure => simp [intOf]; omega
        case neg =>
          obtain rfl : j = l.length := by omega
          obtain ⟨H1, hid, htsl, hisl, hbr⟩ := H.out
          obtain ⟨A7, c7, hv7⟩ := row_slice H1.r7.row
          obtain ⟨A8, c8, hv8⟩ := row_slice H1.r8.row
          subst hv7
          subst hv8
          have Hlis := Lib.hid (show is.length = tis.length by rw [hid, List.length_map])
          have Hid3 := Lib.hid hid
          have HI3 := Lib.hid H1
          have hts : ts.length + 300 ≤ 2147483648 := by omega
          have hil40 : is.length ≤ 40 := by have := Hlis.out; omega
          clear hid H1 H htsl
          go_wp2
          go_loopw [13] (fun i wx => ∃ (j : Nat) (tagr : Nat → Nat) (pr : BPl), j ≤ is.length ∧ i = .int .i64 (j : Int) ∧ Hid (ShI w bx sy A2 n c2 wx tagr pr ts base (.slice A7 is.length c7) (.slice A8 tis.length c8) is tis)) (fun i _ => is.length - (intOf i).toNat)
          case atStart => exact ⟨0, tagr, pr, Nat.zero_le _, rfl, HI3⟩
          case round =>
            obtain ⟨i3, tag3, p3, hi3, rfl, H3⟩ := hrel
            by_cases hlt3 : i3 < is.length
            case pos =>
              obtain ⟨y, hy⟩ : ∃ y, tis[i3]? = some y := ⟨_, List.getElem?_eq_getElem (by have := Hlis.out; omega)⟩
              have hyis : is[i3]? = some ((idxT ts y.t : Nat) : Int) := by rw [Hid3.out, List.getElem?_map, hy]; rfl
              have hmy := H3.out.mem y (List.mem_of_getElem? hy)
              have hyf := H3.out.r8.i64 y (List.mem_of_getElem? hy)
              obtain ⟨g7, c7', hg7, hg7l, k7⟩ := H3.out.r7.get hyis
              obtain ⟨g8, c8', hg8, hg8l, k80, k81⟩ := rowT_get H3.out.r8 hy
              injection hg7 with hg7 hg71 hg72
              injection hg8 with hg8 hg81 hg82
              clear hg71 hg72 hg81 hg82
              subst hg7
              subst hg8
              have HC : Hid (∀ x tagx px, ShI w bx sy A2 n c2 x tagx px ts base (.slice (some ⟨g7, 0, none⟩) is.length c7) (.slice (some ⟨g8, 0, none⟩) tis.length c8) is tis → x.cell? ⟨g7, i3, none⟩ = some (.int .i64 ((idxT ts y.t : Nat) : Int)) ∧ x.cell? ⟨g8, i3 * 2, none⟩ = some (.int .i64 y.t.fn) ∧ x.cell? ⟨g8, i3 * 2 + 1, none⟩ = some (.slice y.A y.t.args.length y.c) ∧ ArgsN x (· < w.heap.size) y.A y.t.args) := Lib.hid fun x tagx px hx => by
                obtain ⟨g, c', e, _, hc⟩ := hx.r7.get hyis
                injection e with e _ _; injection e with e; injection e with e _ _; subst e
                obtain ⟨g', c', e, _, h1, h2⟩ := rowT_get hx.r8 hy
                injection e with e _ _; injection e with e; injection e with e _ _; subst e
                exact ⟨hc, h1, h2, hx.r8.sub y (List.mem_of_getElem? hy)⟩
              have HG := Lib.hid (H3.out.get hmy.1)
              have Hmy := Lib.hid hmy
              have hlt3' : (i3 : Int) < (is.length : Int) := by omega
              have hlt3t : (i3 : Int) < (tis.length : Int) := by have := Hlis.out; omega
              have hltn : i3 < tis.length := by have := Hlis.out; omega
              have hwr3 : IntKind.i64.wrap ((i3 : Int) + 1) = (i3 : Int) + 1 := by rw [IntKind.wrap_i64]; omega
              obtain ⟨iy, hiy⟩ : ∃ iy, idxT ts y.t = iy := ⟨_, rfl⟩
              rw [hiy] at k7 HG HC
              have Hiy := Lib.hid hiy
              clear hy hyis hmy hiy
              go_upto_region 22 with (first
                | (go_at_call 21; (with_reducible refine HG.out.mono ?_); go_must (rintro e w4 ⟨A4, c4, rfl, hA4, hb4⟩))
                | fail)
              obtain ⟨V5, hV5⟩ : ∃ V5, w4.alloc (.cells #[.int .i64 y.t.fn, .slice A4 y.t.args.length c4] 37) = V5 := ⟨_, rfl⟩
              have hB5 : Below w4.heap.size w4 V5 := by rw [← hV5]; exact (Below.refl _ _).alloc (Nat.le_refl _) _
              have q5 := heap_alloc_new w4 (.cells #[.int .i64 y.t.fn, .slice A4 y.t.args.length c4] 37)
              rw [hV5] at q5 ⊢
              have h4s := hb4.size
              have hBr5 : Below wr.heap.size wr V5 := hb4.trans (hB5.mono h4s)
              have HI5 := Lib.hid (H3.out.on hBr5)
              have hz5 : tag3 w4.heap.size = 0 := H3.out.wk.b.hi _ h4s
              have hzA : ∀ g, wr.heap.size ≤ g → tag3 g = 0 := fun g hg => H3.out.wk.b.hi g hg
              have hA5 : ArgsN V5 (fun g => wr.heap.size ≤ g ∧ g < w4.heap.size) A4 y.t.args := hA4.keep fun g e => hB5.block g e.2
              have h5s := (Array.getElem?_eq_some_iff.1 q5).1
              obtain ⟨j7, j80, j81, j9⟩ := HC.out V5 tag3 p3 HI5.out
              have HF := Lib.hid (HI5.out.find (ct := y.c) hn hts Hmy.out.1 Hmy.out.2 hyf j9 (fun g e => ⟨Nat.lt_of_lt_of_le e HI5.out.wk.low.size, HI5.out.wk.z g e⟩))
              rw [Hiy.out] at HF
              have HQ5 := Lib.hid q5
              have HA5 := Lib.hid hA5
              have HzA := Lib.hid hzA
              clear hV5 q5 hA4 hA5 hzA j9 k7 k80 k81 hb4
              obtain ⟨n5, hn5⟩ : ∃ n5, w4.heap.size = n5 := ⟨_, rfl⟩
              rw [hn5] at HQ5 HA5 hz5 h5s h4s ⊢
              clear hn5
              go_wp2_with (first
                | (go_at_call 16; (with_reducible refine HF.out.mono ?_); go_must (rintro e w6 ⟨p6, tag6, rfl, hI6, hG6⟩; have r6 := (hG6.k.block h5s (fun e => e hz5)).trans HQ5.out; have hA6 := HA5.out.keep (w' := w6) (fun g e => hG6.k.block (by have := e.2; omega) (fun e2 => e2 (HzA.out g e.1))); have h56 := hG6.k.size; have HI6 := Lib.hid hI6; have HR6 := Lib.hid r6; have HA6 := Lib.hid hA6; clear hI6 hG6 r6 hA6))
                | fail)
              have HC6 := Lib.hid fun x : Later w6.heap.size w6 => HC.out x.w tag6 p6 (HI6.out.on x.h)
              have m7 := fun x : Later w6.heap.size w6 => (HC6.out x).1
              have m80 := fun x : Later w6.heap.size w6 => (HC6.out x).2.1
              have m81 := fun x : Later w6.heap.size w6 => (HC6.out x).2.2.1
              have m90 : ∀ x : Later w6.heap.size w6, x.w.cell? ⟨n5, 0, none⟩ = some (.int .i64 y.t.fn) := fun x => (cells_two ((x.h.block _ (by omega)).trans HR6.out)).1
              have m91 : ∀ x : Later w6.heap.size w6, x.w.cell? ⟨n5, 1, none⟩ = some (.slice A4 y.t.args.length c4) := fun x => (cells_two ((x.h.block _ (by omega)).trans HR6.out)).2.1
              have HSm := Lib.hid fun x : Later w6.heap.size w6 => by
                have := ref2Same_any' y.t y.t A4 y.A c4 y.c x.w hyf hyf ((HA6.out.keep fun g e => x.h.block g (by have := e.2; omega)).args fun g e => by have := e.2; have := x.h.size; omega) ((HC6.out x).2.2.2.args fun g e => Nat.lt_of_lt_of_le e (HI6.out.on x.h).wk.low.size)
                rw [decide_eq_true (cmp_zero_iff.2 rfl)] at this
                exact this
              clear HF HC6 j7 j80 j81
              refine wp_region_later w6.heap.size w6 (by kernel_rfl) (by kernel_rfl) (bl_drewN (Below.refl _ _) 1) ?_
              repeat (go_big_quiet_step (first
                | (go_at_call 14; with_reducible refine calls_later _ (Nat.le_refl _) (HSm.out _))
                | fail))
              refine wpQuiet_nil ?_
              rintro _ ⟨z, rfl⟩
              obtain ⟨w7, hw7⟩ : ∃ w7, z.w = w7 := ⟨_, rfl⟩
              have hb7 := z.h
              rw [hw7] at hb7 ⊢
              clear hw7 HSm m7 m80 m81 m90 m91
              have HI7 := Lib.hid (HI6.out.on hb7)
              have h67 := hb7.size
              have HAr := Lib.hid (HI7.out.args (by omega) Hmy.out.1)
              rw [Hiy.out] at HAr
              obtain ⟨k7, _⟩ := HC.out w7 tag6 p6 HI7.out
              have HR7 := Lib.hid ((hb7.block _ (by omega)).trans HR6.out)
              have HA7 := Lib.hid (HA6.out.keep fun g e => hb7.block g (by have := e.2; omega))
              clear HR6 HA6 HI6 HQ5 HA5
              go_wp2_with (first
                | (go_at_call 22; (with_reducible refine HAr.out.mono ?_); go_must (rintro e w8 ⟨A9, c9, rfl, hI8, hb8⟩; have HI8 := Lib.hid hI8; clear hI8))
                | fail)
              have h78 := hb8.size
              have HI9 := Lib.hid (HI7.out.on hb8)
              have HR8 := Lib.hid ((hb8.block _ (by omega)).trans HR7.out)
              have HA8 := Lib.hid (HA7.out.keep fun g e => hb8.block g (by have := e.2; omega))
              have hn58 : n5 < w8.heap.size := by omega
              have hAl : y.t.args.length ≤ 300 := by
                have h1 := sizes_len y.t.args
                have h2 : y.t.size = sizes y.t.args + 1 := by cases y.t; simp [Tm.size, Tm.args]
                have h3 := HI9.out.sz y.t Hmy.out.1
                omega
              clear HI7 HR7 HA7 HAr k7
              go_loopw [19] (fun i wx => ∃ (k : Nat), k ≤ y.t.args.length ∧ i = .int .i64 (k : Int) ∧ Below w8.heap.size w8 wx) (fun i _ => y.t.args.length - (intOf i).toNat)
              case atStart => exact ⟨0, Nat.zero_le _, rfl, Below.refl _ _⟩
              case round =>
                obtain ⟨k, hk, rfl, hBi⟩ := hrel
                have hwi := hBi.size
                by_cases hkl : k < y.t.args.length
                case pos =>
                  obtain ⟨u, hu⟩ : ∃ u, y.t.args[k]? = some u := ⟨_, List.getElem?_eq_getElem hkl⟩
                  have HIr := Lib.hid (HI9.out.on hBi)
                  have huin : u ∈ ts := HIr.out.wk.b.ok.arg Hmy.out.1 (List.mem_of_getElem? hu)
                  have hult := HIr.out.wk.b.ok.cl _ y.t (idxT_at Hmy.out.1) u (List.mem_of_getElem? hu)
                  have hui := HIr.out.wk.b.i64 u huin
                  have hnk : ((numsT ts y.t.args).map Int.ofNat)[k]? = some ((idxT ts u : Nat) : Int) := by simp [numsT, hu]
                  have HG := Lib.hid (HIr.out.get huin)
                  obtain ⟨iu, hiu⟩ : ∃ iu, idxT ts u = iu := ⟨_, rfl⟩
                  rw [hiu, Hiy.out] at hult
                  rw [hiu] at hnk HG
                  obtain ⟨g9, c9', hg9, hg9l, k9⟩ := (HI8.out.on hBi).get hnk
                  injection hg9 with hg9 hg91 hg92
                  clear hg91 hg92
                  subst hg9
                  obtain ⟨ab, ao, A11, c11, hA11, hat⟩ := HA8.out.get hu
                  subst hA11
                  have hat0 := hat.c0
                  have hat1 := hat.c1
                  have hab := hat.hb
                  have Hsub8 := Lib.hid hat.sub
                  have hd1 : decide (iy ≤ iu) = false := decide_eq_false (by omega)
                  have hd2 : decide ((iy : Int) ≤ (iu : Int)) = false := decide_eq_false (by omega)
                  have hk7 : (k : Int) < (y.t.args.length : Int) := by omega
                  have hwrk : IntKind.i64.wrap ((k : Int) + 1) = (k : Int) + 1 := by rw [IntKind.wrap_i64]; omega
                  obtain ⟨k7, _⟩ := HC.out wr tag6 p6 HIr.out
                  clear hnk hat hiu hu huin
                  go_upto_region 30 with (first
                    | (go_at_call 21; (with_reducible refine HG.out.mono ?_); go_must (rintro e w10 ⟨A10, c10, rfl, hA10, hb10⟩))
                    | fail)
                  obtain ⟨V11, hV11⟩ : ∃ V11, w10.alloc (.cells #[.int .i64 u.fn, .slice A10 u.args.length c10] 37) = V11 := ⟨_, rfl⟩
                  have hB11 : Below w10.heap.size w10 V11 := by rw [← hV11]; exact (Below.refl _ _).alloc (Nat.le_refl _) _
                  have q11 := heap_alloc_new w10 (.cells #[.int .i64 u.fn, .slice A10 u.args.length c10] 37)
                  rw [hV11] at q11 ⊢
                  have h10s := hb10.size
                  have hBr11 : Below wr.heap.size wr V11 := hb10.trans (hB11.mono h10s)
                  have h11s := (Array.getElem?_eq_some_iff.1 q11).1
                  have HQ11 := Lib.hid q11
                  have HA10 := Lib.hid (hA10.keep (w' := V11) fun g e => hB11.block g e.2)
                  have hB8x : Below w8.heap.size w8 V11 := hBi.trans (hBr11.mono hwi)
                  obtain ⟨n11, hn11⟩ : ∃ n11, w10.heap.size = n11 := ⟨_, rfl⟩
                  rw [hn11] at HQ11 HA10 h11s h10s ⊢
                  clear hn11 hV11 q11 hA10 hb10 hB11
                  have h811 := hB8x.size
                  have hr11 := hBr11.size
                  have m1 : ∀ x : Later V11.heap.size V11, x.w.cell? ⟨g9, k, none⟩ = some (.int .i64 (iu : Int)) := fun x => (World.cell?_of_block ((x.h.block g9 (by omega)).trans (hBr11.block g9 hg9l))).trans k9
                  have m2 : ∀ x : Later V11.heap.size V11, x.w.cell? ⟨g7, i3, none⟩ = some (.int .i64 (iy : Int)) := fun x => (HC.out x.w tag6 p6 (HIr.out.on (hBr11.trans (x.h.mono hr11)))).1
                  have m30 : ∀ x : Later V11.heap.size V11, x.w.cell? ⟨n11, 0, none⟩ = some (.int .i64 u.fn) := fun x => (cells_two ((x.h.block _ h11s).trans HQ11.out)).1
                  have m31 : ∀ x : Later V11.heap.size V11, x.w.cell? ⟨n11, 1, none⟩ = some (.slice A10 u.args.length c10) := fun x => (cells_two ((x.h.block _ h11s).trans HQ11.out)).2.1
                  have m4 : ∀ x : Later V11.heap.size V11, x.w.cell? ⟨n5, 1, none⟩ = some (.slice (some ⟨ab, ao, none⟩) y.t.args.length c4) := fun x => (cells_two ((x.h.block n5 (by omega)).trans ((hB8x.block n5 hn58).trans HR8.out))).2.1
                  have m50 : ∀ x : Later V11.heap.size V11, x.w.cell? ⟨ab, ao + k * 2, none⟩ = some (.int .i64 u.fn) := fun x => (World.cell?_of_block ((x.h.block ab (by have := hab.2; omega)).trans (hB8x.block ab (by have := hab.2; omega)))).trans hat0
                  have m51 : ∀ x : Later V11.heap.size V11, x.w.cell? ⟨ab, ao + k * 2 + 1, none⟩ = some (.slice A11 u.args.length c11) := fun x => (World.cell?_of_block ((x.h.block ab (by have := hab.2; omega)).trans (hB8x.block ab (by have := hab.2; omega)))).trans hat1
                  have HSm := Lib.hid fun x : Later V11.heap.size V11 => by
                    have := ref2Same_any' u u A10 A11 c10 c11 x.w hui hui ((HA10.out.keep fun g e => x.h.block g (by have := e.2; omega)).args fun g e => by have := e.2; have := x.h.size; omega) ((Hsub8.out.keep fun g e => (x.h.block g (by have := e.2; omega)).trans (hB8x.block g (by have := e.2; omega))).args fun g e => by have := e.2; have := x.h.size; omega)
                    rw [decide_eq_true (cmp_zero_iff.2 rfl)] at this
                    exact this
                  clear hat0 hat1 k7 k9
                  refine wp_region_later V11.heap.size V11 (by kernel_rfl) (by kernel_rfl) (bl_drewN (Below.refl _ _) 1) ?_
                  repeat (go_big_quiet_step (first
                    | (go_at_call 14; with_reducible refine calls_later _ (Nat.le_refl _) (HSm.out _))
                    | fail))
                  refine wpQuiet_nil ?_
                  rintro _ ⟨z, rfl⟩
                  have hzB := hB8x.trans (z.h.mono h811)
                  clear HSm m1 m2 m30 m31 m4 m50 m51
                  go_wp2
                  go_roundw
                  case rel => exact ⟨k + 1, by omega, by go_num, hzB⟩
                  case measure => simp [intOf]; omega
                case neg =>
                  obtain rfl : k = y.t.args.length := by omega
                  have HIr := Lib.hid (HI9.out.on hBi)
                  clear HG HI9
                  go_wp2
                  go_roundw
                  case rel => exact ⟨i3 + 1, tag6, p6, by omega, by go_num, HIr⟩
                  case measure => simp [intOf]; omega
            case neg =>
              obtain rfl : i3 = is.length := by omega
              have HK := Lib.hid (HWk.out wr H3.out.wk.low)
              have HL := Lib.hid H3.out.wk.low
              go_wp2_with (first
                | (go_at_call 7; (with_reducible refine HK.out.mono ?_); go_must (rintro e w9 ⟨rfl, hb9⟩))
                | fail)
              go_ret
              exact ⟨rfl, HL.out.trans (hb9.mono HL.out.size)⟩
end Go.Proofs.YtmmiclpedehcpaaDoor
namespace Go.Proofs.YtmmiclpedehcpaaDoor
open Go.ChangeShapes Go.WideShapes Go.ChangeAt Go.RowKit
section
variable {H : Type} {enc : TypeId × Value → H} {W : World} {base : Nat} {sp : Nat → Bool} {held : Bool}
theorem cellsSym : Tryd.prog.cellsOf 67 = 3 := by kernel_rfl
theorem cellsStr : Tryd.prog.cellsOf 9 = 1 := by kernel_rfl
theorem cellsInt : Tryd.prog.cellsOf 3 = 1 := by kernel_rfl
theorem cellsBool : Tryd.prog.cellsOf 4 = 1 := by kernel_rfl
theorem cellsSlice : Tryd.prog.cellsOf 22 = 1 := by kernel_rfl
theorem cellsSig : Tryd.prog.cellsOf 24 = 1 := by kernel_rfl
theorem bytesSym : Tryd.prog.bytesOf 67 = 32 := by kernel_rfl
set_option maxRecDepth 20000 in
theorem trod_sym {n : Nat} {cs : List Value} {x : DataW H × List MemPlace} (h : DataW.trod enc Tryd.prog W base sp held n 67 cs = some x) :
    ∃ s : Sm, cs = [.string s.name, .int .i64 s.arity, .bool s.pred] ∧ s.Ok ∧ x.1 = .agg [.lit (.string s.name.data.toList), .lit (.int .i64 s.arity), .lit (.bool s.pred)] := by
  obtain ⟨xs, n', _, hx, hlen, hxs, hf⟩ := DataW.trod_struct Tryd.underlying67 h
  rw [cellsSym] at hlen
  match cs, hlen with
  | [c0, c1, c2], _ =>
    have hx3 : xs.length = 3 := by rw [hxs]; rfl
    match xs, hx3 with
    | [x0, x1, x2], _ =>
      have g0 := hf 0 _ rfl
      have g1 := hf 1 _ rfl
      have g2 := hf 2 _ rfl
      simp [cellsStr] at g0
      simp [cellsInt] at g1
      simp [cellsBool] at g2
      obtain ⟨a, ha, ea, hs⟩ := DataW.trod_string Tryd.underlying9 g0
      obtain ⟨b, hb, eb, hw⟩ := DataW.trod_int Tryd.underlying3 g1
      obtain ⟨c, hc, ec⟩ := DataW.trod_bool Tryd.underlying4 g2
      injection ha with ha; injection hb with hb; injection hc with hc
      subst ha; subst hb; subst hc
      have hw' : -9223372036854775808 ≤ b ∧ b ≤ 9223372036854775807 := by
        have := hw
        simp [Lit.wf, IntKind.min, IntKind.max, IntKind.signed, IntKind.bits] at this
        exact this
      exact ⟨⟨a, b, c⟩, rfl, ⟨hs, hw'.1, hw'.2⟩, by rw [hx]; simp [ea, eb, ec]⟩
theorem cell_spot {W : World} {a : Addr} {v : Value} (h : W.cell? a = some v) : a.spot = none := by
  unfold World.cell? at h
  split at h
  · split at h
    · cases h
    · rename_i hs; simpa using hs
  · cases h
theorem trod_syms {n : Nat} {v : Value} {x : DataW H × List MemPlace} (h : DataW.trod enc Tryd.prog W base (fun _ => true) held n 22 [v] = some x) :
    ∃ (A : Option Addr) (len c : Nat) (l : List Sm), v = .slice A len c ∧ Syms W W.heap.size A len l ∧ (len = 0 ∨ ∃ elems spare, x.1 = .slice elems spare ∧ elems.length = len) := by
  rcases Go.Deep.open_slice Tryd.underlying22 h with ⟨hv, _⟩ | ⟨a, len, cap, m, n', D, Pl, hv, hb, hl, hm, hmm, hx, hi⟩
  · injection hv with hv
    subst hv
    exact ⟨none, 0, 0, [], rfl, Syms.nil_ _ _ _, .inl rfl⟩
  · injection hv with hv
    subst hv
    have hcap : m = cap := by simpa using hmm
    subst hcap
    have each : ∀ i, i < len → ∃ s : Sm, s.Ok ∧ W.cell? (a.add (i * 3)) = some (.string s.name) ∧ W.cell? ((a.add (i * 3)).add 1) = some (.int .i64 s.arity) ∧ W.cell? ((a.add (i * 3)).add 2) = some (.bool s.pred) := by
      intro i hlt
      obtain ⟨cs', hc, ht⟩ := hi i (by omega)
      rw [cellsSym] at hc
      obtain ⟨_, _, hat⟩ := World.cells?_some hc
      obtain ⟨s, rfl, hok, _⟩ := trod_sym ht
      refine ⟨s, hok, ?_, hat 1 (by omega), hat 2 (by omega)⟩
      have := hat 0 (by omega)
      simpa [Addr.add] using this
    obtain ⟨q, hq⟩ := Go.Deep.choose_lt each
    refine ⟨some a, len, m, (List.range len).map q, rfl, ⟨by simp, fun s hs => ?_, fun hpos => ?_⟩, .inr ⟨(List.range len).map D, _, by rw [hx], by simp⟩⟩
    · obtain ⟨i, hir, rfl⟩ := List.mem_map.1 hs
      exact (hq i (List.mem_range.1 hir)).1
    · have c0 := (hq 0 hpos).2.1
      simp only [Nat.zero_mul, Addr.add, if_true] at c0
      obtain ⟨blk, off, spot⟩ := a
      obtain rfl : spot = none := cell_spot c0
      refine ⟨blk, off, rfl, ?_, fun i s hs => ?_⟩
      · unfold World.cell? at c0
        rcases Nat.lt_or_ge blk W.heap.size with h1 | h1
        · exact h1
        · simp [Array.getElem?_eq_none h1] at c0
      · have hilt : i < len := by
          have := (List.getElem?_eq_some_iff.1 hs).1
          simpa using this
        have he : q i = s := by
          rw [List.getElem?_map, List.getElem?_range hilt] at hs
          simpa using hs
        obtain ⟨_, h1, h2, h3⟩ := hq i hilt
        rw [he] at h1 h2 h3
        rw [Addr.add_lit] at h1 h2 h3
        rw [Addr.add_lit] at h2 h3
        exact ⟨h1, h2, h3⟩
set_option maxRecDepth 20000 in
theorem open_sig {r : Reach} {b0 : Nat} {v : Value} {d : DataW H} {ps : List MemPlace} (hv : Value.okWide Tryd.prog W r b0 24 v) (h : DataW.Trod enc Tryd.prog W base (fun _ => true) held 24 v d ps) :
    ∃ (A : Option Addr) (len c : Nat) (l : List Sm), v = .agg #[.slice A len c] ∧ Syms W W.heap.size A len l ∧ (len = 0 ∨ ∃ elems spare, d = .agg [.slice elems spare] ∧ elems.length = len) := by
  obtain ⟨cs, rfl, hsz⟩ := okWide_struct Tryd.underlying24 hv
  rw [cellsSig] at hsz
  obtain ⟨fuel, hf⟩ := h
  obtain ⟨xs, n, _, hx, _, hxs, hg⟩ := DataW.trod_struct Tryd.underlying24 hf
  obtain ⟨cl⟩ := cs
  match cl, hsz with
  | [c0], _ =>
    have hx1 : xs.length = 1 := by rw [hxs]; rfl
    match xs, hx1 with
    | [x0], _ =>
      have g0 := hg 0 _ rfl
      simp [Value.cells, cellsSlice] at g0
      obtain ⟨A, len, c, l, rfl, hS, hd⟩ := trod_syms g0
      refine ⟨A, len, c, l, rfl, hS, ?_⟩
      rcases hd with h0 | ⟨elems, spare, he, hl⟩
      · exact .inl h0
      · right
        simp only [Prod.mk.injEq] at hx
        exact ⟨elems, spare, by rw [hx.1]; simp [he], hl⟩
theorem sig_size {ts : List TypeId} {ds : List (DataW H)} (h : (DataW.weightsEach Tryd.prog ts ds).all (· ≤ reachBytes) = true) {j : Nat} {d : DataW H} {len : Nat} (ht : ts[j]? = some 24) (hd : ds[j]? = some d)
    (hl : len = 0 ∨ ∃ elems spare, d = .agg [.slice elems spare] ∧ elems.length = len) : len * 32 ≤ 140737488351232 := by
  rcases hl with rfl | ⟨elems, spare, rfl, rfl⟩
  · omega
  · have hm := DataW.weights_mem_each (P := Tryd.prog) ht hd ((elems.length + spare.length) * Tryd.prog.bytesOf 67) (by
      simp [DataW.weights, Tryd.underlying24, DataW.weightsEach, Tryd.underlying22])
    have := List.all_eq_true.1 h _ hm
    rw [bytesSym] at this
    have h2 : (elems.length + spare.length) * 32 ≤ reachBytes := of_decide_eq_true this
    have h3 : reachBytes = 140737488351232 := by decide +kernel
    omega
end
end Go.Proofs.YtmmiclpedehcpaaDoor
namespace Go.Proofs.YtmmiclpedehcpaaDoor
open Go.ChangeShapes Go.WideShapes Go.ChangeAt Go.RowKit
set_option maxRecDepth 20000
section
variable {H : Type} {enc : TypeId × Value → H} {W : World} {base : Nat} {held : Bool}
theorem cellsTerm : Tryd.prog.cellsOf 37 = 2 := by kernel_rfl
theorem cellsTerms : Tryd.prog.cellsOf 35 = 1 := by kernel_rfl
theorem bulk_all : ∀ (ts : List Tm) (ds : List (DataW H)), ts.length = ds.length → (∀ (i : Nat) (t : Tm) (d : DataW H), ts[i]? = some t → ds[i]? = some d → t.size ≤ Rows.uptoBulk d) → sizes ts ≤ Rows.uptoBulkAll ds
  | [], [], _, _ => by simp [sizes]
  | [], _ :: _, h, _ => by simp at h
  | _ :: _, [], h, _ => by simp at h
  | t :: ts, d :: ds, h, hh => by
    have h1 := hh 0 t d rfl rfl
    have h2 := bulk_all ts ds (by simpa using h) fun i t' d' e1 e2 => hh (i + 1) t' d' (by simpa using e1) (by simpa using e2)
    simp only [sizes, Rows.uptoBulkAll]
    omega
theorem trod_term : ∀ (n : Nat) (cs : List Value) (x : DataW H × List MemPlace), DataW.trod enc Tryd.prog W base (fun _ => true) held n 37 cs = some x →
    ∃ (t : Tm) (A : Option Addr) (c : Nat), cs = [.int .i64 t.fn, .slice A t.args.length c] ∧ I64 t.fn ∧ Args W W.heap.size A t.args ∧ t.size ≤ Rows.uptoBulk x.1 := by
  intro n
  induction n using Nat.strongRecOn with
  | ind n ih =>
    intro cs x h
    obtain ⟨xs, n', rfl, hx, hlen, hxs, hf⟩ := DataW.trod_struct Tryd.underlying37 h
    rw [cellsTerm] at hlen
    match cs, hlen with
    | [c0, c1], _ =>
      have hx2 : xs.length = 2 := by rw [hxs]; rfl
      match xs, hx2 with
      | [x0, x1], _ =>
        have g0 := hf 0 _ rfl
        have g1 := hf 1 _ rfl
        simp [cellsInt] at g0
        simp [cellsTerms] at g1
        obtain ⟨f, hfv, ef, hw⟩ := DataW.trod_int Tryd.underlying3 g0
        injection hfv with hfv
        subst hfv
        have hf64 : I64 f := by
          have := hw
          simp [Lit.wf, IntKind.min, IntKind.max, IntKind.signed, IntKind.bits] at this
          exact this
        rcases DataW.trod_slice Tryd.underlying35 g1 with ⟨hv, e1⟩ | ⟨a, len, cap, elems, rest, m, hm, hv, e1, _, hl, hmax, hlenE, hel, _, _⟩
        · injection hv with hv
          subst hv
          refine ⟨.node f [], none, 0, rfl, hf64, .nil none, ?_⟩
          subst hx
          simp [ef, e1, Tm.size, sizes, Rows.uptoBulk, Rows.uptoBulkAll]
        · injection hv with hv
          subst hv
          have each : ∀ i, i < len → ∃ q : Tm × Option Addr × Nat × DataW H, I64 q.1.fn ∧ W.cell? (a.add (i * 2)) = some (.int .i64 q.1.fn) ∧ W.cell? ((a.add (i * 2)).add 1) = some (.slice q.2.1 q.1.args.length q.2.2.1) ∧ Args W W.heap.size q.2.1 q.1.args ∧ q.1.size ≤ Rows.uptoBulk q.2.2.2 ∧ (elems.map (·.1))[i]? = some q.2.2.2 := by
            intro i hi
            have h1 := hel i hi
            rw [cellsTerm] at h1
            rw [List.getElem?_eq_getElem (by omega)] at h1
            cases hc : W.cells? base (a.add (i * 2)) 2 with
            | none => rw [hc] at h1; cases h1
            | some cs' =>
              rw [hc] at h1
              simp only [Option.bind_some] at h1
              obtain ⟨t, A, c, rfl, ht64, hA, hb⟩ := ih m (by omega) cs' _ h1
              obtain ⟨_, _, hat⟩ := World.cells?_some hc
              refine ⟨(t, A, c, (elems[i]'(by omega)).1), ht64, ?_, hat 1 (by omega), hA, hb, by rw [List.getElem?_map, List.getElem?_eq_getElem (show i < elems.length by omega)]; rfl⟩
              have := hat 0 (by omega)
              simpa [Addr.add] using this
          haveI : Inhabited (Tm × Option Addr × Nat × DataW H) := ⟨(.node 0 [], none, 0, .nil)⟩
          obtain ⟨q, hq⟩ := Go.Deep.choose_lt each
          have hget : ∀ (i : Nat) (t : Tm), ((List.range len).map fun i => (q i).1)[i]? = some t → i < len ∧ t = (q i).1 := by
            intro i t e
            have hi : i < len := by have := (List.getElem?_eq_some_iff.1 e).1; simpa using this
            rw [List.getElem?_map, List.getElem?_range hi] at e
            simp at e
            exact ⟨hi, e.symm⟩
          refine ⟨.node f ((List.range len).map fun i => (q i).1), some a, cap, by simp [Tm.fn, Tm.args], hf64, ?_, ?_⟩
          · rcases Nat.eq_zero_or_pos len with h0 | h0
            · subst h0; exact .nil _
            · have c00 := (hq 0 h0).2.1
              simp only [Nat.zero_mul, Addr.add, if_true] at c00
              obtain ⟨blk, off, spot⟩ := a
              obtain rfl : spot = none := cell_spot c00
              have hblk : blk < W.heap.size := by
                unfold World.cell? at c00
                rcases Nat.lt_or_ge blk W.heap.size with h1 | h1
                · exact h1
                · simp [Array.getElem?_eq_none h1] at c00
              simp only [Tm.args]
              refine .row blk off _ (fun i => (q i).2.1) (fun i => (q i).2.2.1) hblk (by unfold maxLen at hmax; simp; omega) (fun i t e => ?_) (fun i t e => ?_) (fun i t e => ?_) (fun i t e => ?_)
              · obtain ⟨hi, rfl⟩ := hget i t e
                exact (hq i hi).1
              · obtain ⟨hi, rfl⟩ := hget i t e
                have := (hq i hi).2.1
                rwa [Addr.add_lit] at this
              · obtain ⟨hi, rfl⟩ := hget i t e
                have := (hq i hi).2.2.1
                rwa [Addr.add_lit, Addr.add_lit] at this
              · obtain ⟨hi, rfl⟩ := hget i t e
                exact (hq i hi).2.2.2.1
          · subst hx
            have hb : sizes ((List.range len).map fun i => (q i).1) ≤ Rows.uptoBulkAll (elems.map (·.1)) := by
              refine bulk_all _ _ (by simp [hlenE]) fun i t d e1 e2 => ?_
              obtain ⟨hi, rfl⟩ := hget i t e1
              have h5 := (hq i hi).2.2.2.2
              rw [h5.2] at e2
              cases e2
              exact h5.1
            simp only [ef, e1, Tm.size, List.map_cons, List.map_nil, Rows.uptoBulk, Rows.uptoBulkAll]
            omega
end
end Go.Proofs.YtmmiclpedehcpaaDoor
namespace Go.Proofs.YtmmiclpedehcpaaDoor
open Go.ChangeShapes Go.WideShapes Go.ChangeAt Go.RowKit
set_option maxRecDepth 20000
section
variable {H : Type} {enc : TypeId × Value → H} {W : World} {base : Nat} {held : Bool}
theorem trodb_terms {n : Nat} {c1 : Value} {x : DataW H × List MemPlace} (g1 : DataW.trod enc Tryd.prog W base (fun _ => true) held n 35 [c1] = some x) :
    ∃ (l : List Tm) (A : Option Addr) (c : Nat), c1 = .slice A l.length c ∧ Args W W.heap.size A l ∧ sizes l ≤ Rows.uptoBulk x.1 := by
  rcases DataW.trod_slice Tryd.underlying35 g1 with ⟨hv, e1⟩ | ⟨a, len, cap, elems, rest, m, hm, hv, e1, _, hl, hmax, hlenE, hel, _, _⟩
  · injection hv with hv
    subst hv
    refine ⟨[], none, 0, rfl, .nil none, ?_⟩
    simp [sizes]
  · injection hv with hv
    subst hv
    have each : ∀ i, i < len → ∃ q : Tm × Option Addr × Nat × DataW H, I64 q.1.fn ∧ W.cell? (a.add (i * 2)) = some (.int .i64 q.1.fn) ∧ W.cell? ((a.add (i * 2)).add 1) = some (.slice q.2.1 q.1.args.length q.2.2.1) ∧ Args W W.heap.size q.2.1 q.1.args ∧ q.1.size ≤ Rows.uptoBulk q.2.2.2 ∧ (elems.map (·.1))[i]? = some q.2.2.2 := by
      intro i hi
      have h1 := hel i hi
      rw [cellsTerm] at h1
      rw [List.getElem?_eq_getElem (by omega)] at h1
      cases hc : W.cells? base (a.add (i * 2)) 2 with
      | none => rw [hc] at h1; cases h1
      | some cs' =>
        rw [hc] at h1
        simp only [Option.bind_some] at h1
        obtain ⟨t, A, c, rfl, ht64, hA, hb⟩ := trod_term m cs' _ h1
        obtain ⟨_, _, hat⟩ := World.cells?_some hc
        refine ⟨(t, A, c, (elems[i]'(by omega)).1), ht64, ?_, hat 1 (by omega), hA, hb, by rw [List.getElem?_map, List.getElem?_eq_getElem (show i < elems.length by omega)]; rfl⟩
        have := hat 0 (by omega)
        simpa [Addr.add] using this
    haveI : Inhabited (Tm × Option Addr × Nat × DataW H) := ⟨(.node 0 [], none, 0, .nil)⟩
    obtain ⟨q, hq⟩ := Go.Deep.choose_lt each
    have hget : ∀ (i : Nat) (t : Tm), ((List.range len).map fun i => (q i).1)[i]? = some t → i < len ∧ t = (q i).1 := by
      intro i t e
      have hi : i < len := by have := (List.getElem?_eq_some_iff.1 e).1; simpa using this
      rw [List.getElem?_map, List.getElem?_range hi] at e
      simp at e
      exact ⟨hi, e.symm⟩
    refine ⟨(List.range len).map fun i => (q i).1, some a, cap, by simp, ?_, ?_⟩
    · rcases Nat.eq_zero_or_pos len with h0 | h0
      · subst h0; exact .nil _
      · have c00 := (hq 0 h0).2.1
        simp only [Nat.zero_mul, Addr.add, if_true] at c00
        obtain ⟨blk, off, spot⟩ := a
        obtain rfl : spot = none := cell_spot c00
        have hblk : blk < W.heap.size := by
          unfold World.cell? at c00
          rcases Nat.lt_or_ge blk W.heap.size with h1 | h1
          · exact h1
          · simp [Array.getElem?_eq_none h1] at c00
        refine .row blk off _ (fun i => (q i).2.1) (fun i => (q i).2.2.1) hblk (by unfold maxLen at hmax; simp; omega) (fun i t e => ?_) (fun i t e => ?_) (fun i t e => ?_) (fun i t e => ?_)
        · obtain ⟨hi, rfl⟩ := hget i t e
          exact (hq i hi).1
        · obtain ⟨hi, rfl⟩ := hget i t e
          have := (hq i hi).2.1
          rwa [Addr.add_lit] at this
        · obtain ⟨hi, rfl⟩ := hget i t e
          have := (hq i hi).2.2.1
          rwa [Addr.add_lit, Addr.add_lit] at this
        · obtain ⟨hi, rfl⟩ := hget i t e
          exact (hq i hi).2.2.2.1
    · have hb : sizes ((List.range len).map fun i => (q i).1) ≤ Rows.uptoBulkAll (elems.map (·.1)) := by
        refine bulk_all _ _ (by simp [hlenE]) fun i t d e1 e2 => ?_
        obtain ⟨hi, rfl⟩ := hget i t e1
        have h5 := (hq i hi).2.2.2.2
        rw [h5.2] at e2
        cases e2
        exact h5.1
      simp only [e1, Rows.uptoBulk]
      omega
theorem openb_terms {r : Reach} {b0 : Nat} {v : Value} {d : DataW H} {ps : List MemPlace} (hv : Value.okWide Tryd.prog W r b0 35 v) (h : DataW.Trod enc Tryd.prog W base (fun _ => true) held 35 v d ps) :
    ∃ (l : List Tm) (A : Option Addr) (c : Nat), v = .slice A l.length c ∧ Args W W.heap.size A l ∧ sizes l ≤ Rows.uptoBulk d := by
  obtain ⟨a0, len0, cap0, rfl⟩ := okWide_slice Tryd.underlying35 hv
  obtain ⟨fuel, hf⟩ := h
  have hf' : DataW.trod enc Tryd.prog W base (fun _ => true) held fuel 35 [.slice a0 len0 cap0] = some (d, ps) := hf
  exact trodb_terms hf'
end
end Go.Proofs.YtmmiclpedehcpaaDoor
namespace Go.Proofs.YtmmiclpedehcpaaDoor
open Go.ChangeShapes Go.WideShapes Go.ChangeAt Go.RowKit
section
variable {H : Type} {enc : TypeId × Value → H} {P : Program}
theorem trodAll_later (hl : laidOutB P = true) {W W' : World} (hb : Below W.heap.size W W') : ∀ {ts : List TypeId} {vs : List Value} {ds : List (DataW H)} {ps : List MemPlace},
    (ts.all fun t => P.readableRec t && decide (t < P.types.size)) = true → (∀ x ∈ ps, x.block < W.heap.size) → DataW.TrodAll enc P W 0 (fun _ => true) true ts vs ds ps → DataW.TrodAll enc P W' 0 (fun b => decide (b < W.heap.size)) true ts vs ds ps
  | [], [], [], _, _, _, h => h
  | [], [], _ :: _, _, _, _, h => h.elim
  | [], _ :: _, _, _, _, _, h => h.elim
  | _ :: _, [], _, _, _, _, h => h.elim
  | _ :: _, _ :: _, [], _, _, _, h => h.elim
  | t :: ts, v :: vs, d :: ds, ps, hr, hlt, h => by
    obtain ⟨p, q, h1, h2, rfl⟩ := h
    simp only [List.all_cons, Bool.and_eq_true, decide_eq_true_eq] at hr
    exact ⟨p, q, Below.trod hl hr.1.1 hr.1.2 h1 hb (fun x hx => hlt x (List.mem_append_left _ hx)), trodAll_later hl hb hr.2 (fun x hx => hlt x (List.mem_append_right _ hx)) h2, rfl⟩
theorem law_post (hl : laidOutB P = true) {f : Func} {s : ChangeSpec} {tb : TypeId} (hv : s.vars = []) (hrt : f.resultTypes = #[tb]) (htb : P.underlying tb = some .bool)
    (hread : (f.params.toList.all fun t => P.readableRec t && decide (t < P.types.size)) = true) {W W' : World} {args : Array Value} {ds gs : List (DataW H)} {before : List MemPlace}
    (hW : DataW.Whole enc P f.params.toList s.vars false W args.toList ds gs before) (hfn : s.fn H (ds ++ gs) = { results := [.lit (.bool true)], args := ds }) (hb : Below W.heap.size W W') :
    s.post enc P f false true false false W args (.bool true) W' := by
  have hlt := hW.lt
  have hW' := hW
  obtain ⟨p, q, hA, hV, rfl, hfz, _⟩ := hW'
  have hV' : gs = [] ∧ q = [] := by
    rw [hv] at hV
    cases gs with
    | nil => exact ⟨rfl, hV⟩
    | cons _ _ => exact hV.elim
  obtain ⟨rfl, rfl⟩ := hV'
  have hold : ∀ x ∈ p, x.block < W.heap.size := fun x hx => hlt x (by simp [hx])
  refine ⟨ds, [], p ++ [], [], p, [], hW, ?_, ?_, ?_, World.keptBut_mono (fun x hx => ⟨hx, ?_⟩) (hb.frame (· ∈ p ++ [])), fun h => by cases h⟩
  · rw [hfn, hrt]
    exact trodAll_mk1 (shut_bool htb _)
  · rw [hfn]
    exact trodAll_later hl hb hread hold hA
  · rw [hfn, hv]
    rfl
  · rw [List.append_nil] at hx
    exact .inr (.inl hx)
end
end Go.Proofs.YtmmiclpedehcpaaDoor
namespace Go.Proofs.YtmmiclpedehcpaaDoor
open Go.ChangeShapes Go.WideShapes Go.ChangeAt Go.RowKit
theorem own : ownKnob Tryd.prog.godebug = none := by kernel_rfl
theorem gTruth : Tryd.prog.globalNamed "syllogism/sign.truth" = some 0 := by kernel_rfl
theorem gTruthType : (Tryd.prog.globals[0]?).map (·.type) = some 67 := by kernel_rfl
theorem cell_spot' {W : World} {b o : Nat} {v : Value} (h : W.cell? ⟨b, o, none⟩ = some v) : b < W.heap.size := by
  unfold World.cell? at h
  rcases Nat.lt_or_ge b W.heap.size with h1 | h1
  · exact h1
  · simp [Array.getElem?_eq_none h1] at h
theorem tru_of_laid {W : World} {rest : List (String × DataW Unit)} (h : laidMet Tryd.prog (("syllogism/sign.truth", Rows.laid_syllogism_sign_truth) :: rest) W) : tru W := by
  obtain ⟨ps, ⟨g', t', cs, fuel, p, q, hg', ht', hvar, hd, _, _⟩, _⟩ := h
  obtain rfl := Option.some.inj (gTruth.symm.trans hg')
  obtain rfl := Option.some.inj (gTruthType.symm.trans ht')
  obtain ⟨s, hcs, _, hx⟩ := trod_sym hd
  have hs : s = truthSm := by
    obtain ⟨a, b, c⟩ := s
    simp [Rows.laid_syllogism_sign_truth] at hx
    obtain ⟨h1, rfl, rfl⟩ := hx
    have : a = truthS := ByteArray.ext (Array.toList_inj.1 h1.symm)
    rw [this]
    rfl
  subst hs
  have hc0 := World.var?_cell hg' hvar 0
  have hc1 := World.var?_cell hg' hvar 1
  have hc2 := World.var?_cell hg' hvar 2
  obtain ⟨cl⟩ := cs
  simp only at hcs
  subst hcs
  refine ⟨hc0, hc1, hc2, ?_⟩
  have := cell_spot' hc0
  exact this
end Go.Proofs.YtmmiclpedehcpaaDoor
namespace Go.Proofs.YtmmiclpedehcpaaDoor
open Go.ChangeShapes Go.WideShapes Go.ChangeAt Go.RowKit
set_option maxRecDepth 20000
variable {H : Type} {enc : TypeId × Value → H} {W : World} {base : Nat} {held : Bool}
end Go.Proofs.YtmmiclpedehcpaaDoor
