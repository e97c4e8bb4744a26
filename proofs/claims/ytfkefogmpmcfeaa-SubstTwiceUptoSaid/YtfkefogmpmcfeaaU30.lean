/- The document's own answer: Compose, the walk. -/
import Derived.Test.YtfkefogmpmcfeaaUD
import Derived.Deep.DeepCutAuto
namespace Go.Proofs.Ytfkefogmpmcfeaa
open Go.RowKit Go.Shelf
set_option maxRecDepth 100000

theorem RcX.next {la lb : List Bd} {n0 b i j i' j' : Nat} {wx w5 : World} {v v5 : Value} {l : List Bi} {L : List Bd} {x : Bd} {A : Option Addr} {c : Nat} {o : Obj} (h : RcX la lb n0 b wx i j i' j' v l L x A c) (hI : RcI la lb n0 wx i j v l L) (hs : ¬ selfB x)
    (hown : w5.ownsRow n0 81 3 v5 (L.length + 1) (l.flatMap Bi.cells ++ (⟨x.v, x.t, A, c⟩ : Bi).cells)) (hgr : (wx.alloc o).grownBy w5 v.ownBlock) (hat : v5.ownBlock = v.ownBlock ∨ v5.ownBlock = some (wx.alloc o).heap.size) :
    RcI la lb n0 w5 i' j' v5 (l ++ [⟨x.v, x.t, A, c⟩]) (L ++ [x]) := by
  refine ⟨h.nx.li, h.nx.lj, h.row.push rfl h.fx hown hgr hat, ?_, by have := hI.cnt; have := h.nx.lt; simp; omega⟩
  rw [← hI.eq, h.nx.eq, List.filter_cons_of_pos (by simpa using hs), List.append_assoc]
  rfl
theorem RcX.skip {la lb : List Bd} {n0 b i j i' j' : Nat} {wx w5 : World} {v : Value} {l : List Bi} {L : List Bd} {x : Bd} {A : Option Addr} {c : Nat} (h : RcX la lb n0 b wx i j i' j' v l L x A c) (hI : RcI la lb n0 wx i j v l L) (hs : selfB x) (hb : Below wx.heap.size wx w5) :
    RcI la lb n0 w5 i' j' v l L := by
  refine ⟨h.nx.li, h.nx.lj, ⟨h.row.key, (h.row.row.keep (fun g e => hb.block g (row_lt h.row.row.row g e).2) fun g e => hb.block g e.2.1).wide fun g e => ⟨e.1, Nat.lt_of_lt_of_le e.2.1 hb.size, e.2.2⟩⟩, ?_, by have := hI.cnt; have := h.nx.lt; omega⟩
  rw [← hI.eq, h.nx.eq, List.filter_cons_of_neg (by simpa using hs)]

theorem RcX.on {la lb : List Bd} {n0 b i j i' j' : Nat} {wx w5 : World} {v : Value} {l : List Bi} {L : List Bd} {x : Bd} {A : Option Addr} {c : Nat} (h : RcX la lb n0 b wx i j i' j' v l L x A c) (hb : Below wx.heap.size wx w5) : RcX la lb n0 b w5 i j i' j' v l L x A c := by
  have hap : ∀ g, Apart n0 v wx g → Apart n0 v w5 g := fun g e => ⟨e.1, Nat.lt_of_lt_of_le e.2.1 hb.size, e.2.2⟩
  exact ⟨h.nx, (hb.block _ (Array.getElem?_eq_some_iff.1 h.box).1).trans h.box, ⟨h.row.key, (h.row.row.keep (fun g e => hb.block g (row_lt h.row.row.row g e).2) fun g e => hb.block g e.2.1).wide hap⟩, (h.fx.keep fun g e => hb.block g e.2.1).wide hap⟩
theorem RcI.on {la lb : List Bd} {n0 i j : Nat} {wx w5 : World} {v : Value} {l : List Bi} {L : List Bd} (h : RcI la lb n0 wx i j v l L) (hrow : CmpI n0 w5 L v l) : RcI la lb n0 w5 i j v l L := ⟨h.li, h.lj, hrow, h.eq, h.cnt⟩

theorem RowT.readN {w : World} {base : Nat} {v : Value} {l : List Ti} {ts : List Tm} (h : RowT w base v l (Apart base v w)) (hl : l.map Ti.t = ts) (hlen : ts.length ≤ 9223372036854775807) : ∃ A c, v = .slice A ts.length c ∧ ArgsN w (fun g => base ≤ g ∧ g < w.heap.size) A ts := by
  have hll : l.length = ts.length := by rw [← hl, List.length_map]
  obtain ⟨A, c, hv, hA⟩ := h.argsN (M := fun g => base ≤ g ∧ g < w.heap.size) (by omega) (fun g e => row_lt h.row g e) (fun g e => ⟨e.1, e.2.1⟩)
  rw [hl] at hA
  rw [hll] at hv
  exact ⟨A, c, hv, hA⟩
/-- A term of memory of its own, as it lies. -/
def ReadPost (t : Tm) (w : World) (e : Ending) (w' : World) : Prop := ∃ A' c', e = .returned (.agg #[.int .i64 t.fn, .slice A' t.args.length c']) ∧ ArgsN w' (fun g => w.heap.size ≤ g ∧ g < w'.heap.size) A' t.args ∧ Below w.heap.size w w'
theorem RCopyPost.read {t : Tm} {w w' : World} {e : Ending} (h : RCopyPost t w e w') (hlen : t.args.length ≤ 9223372036854775807) : ReadPost t w e w' := by
  obtain ⟨v, l, rfl, hl, hR, hb⟩ := h
  obtain ⟨A', c', rfl, hA⟩ := hR.readN hl hlen
  exact ⟨A', c', rfl, hA, hb⟩
theorem refApply_at (l : List Bd) (hsm : ∀ x ∈ l, x.t.size ≤ 4398046511104) (t : Tm) (hsz : t.size ≤ 4398046511104) (B : Option Addr) (cb : Nat) (A : Option Addr) (c : Nat) (w : World) (hB : Binds w (· < w.heap.size) B l) (hf : I64 t.fn) (hA : Args w w.heap.size A t.args) :
    Calls Try.prog 64 #[.slice B l.length cb, .agg #[.int .i64 t.fn, .slice A t.args.length c]] w (ReadPost (appT (bdT l) t) w) :=
  (refApply_any l hsm t hsz B cb A c w hB hf hA).mono fun _ _ h => h.read (appT_args hsm hA.len)
theorem refCopy_at (t : Tm) (hsz : t.size ≤ 4398046511104) (A : Option Addr) (c : Nat) (w : World) (hf : I64 t.fn) (hA : Args w w.heap.size A t.args) :
    Calls Try.prog 55 #[.agg #[.int .i64 t.fn, .slice A t.args.length c]] w (ReadPost t w) :=
  (refCopy_any t hsz A c w hf hA).mono fun _ _ h => h.read hA.len

set_option maxHeartbeats 16000000 in
theorem refCompose_yes (la lb : List Bd) (A : Option Addr) (c : Nat) (A2 : Option Addr) (c2 : Nat) (w : World) (hla : la.length ≤ 1048576) (hlb : lb.length ≤ 1048576) (hsa : ∀ x ∈ la, x.t.size ≤ 4398046511104) (hsb : ∀ x ∈ lb, x.t.size ≤ 4398046511104) (hA : Binds w (· < w.heap.size) A la) (hA2 : Binds w (· < w.heap.size) A2 lb) (ha : chkB la = true) (hb : chkB lb = true) :
    Calls Try.prog 31 #[.slice A la.length c, .slice A2 lb.length c2] w fun e w' => ∃ v l, e = .returned (.tuple #[v, .int .i64 0]) ∧ CmpI w.heap.size w' (compB la lb) v l ∧ Below w.heap.size w w' := by
  obtain ⟨i0, hi, hz0, hz1, hz2⟩ := info_parts info_bind
  have lift : ∀ (l : List Bd) (A : Option Addr) (w1 : World), Binds w (· < w.heap.size) A l → Below w.heap.size w w1 → Binds w1 (· < w1.heap.size) A l := fun l A w1 h hb => (h.keep fun g e => hb.block g e).wide fun g e => Nat.lt_of_lt_of_le e hb.size
  have H1 := Lib.hid (refCheck_yes la A c w (by omega) hA ha)
  have H2 : ∀ w1, Below w.heap.size w w1 → Calls Try.prog 20 #[.slice A2 lb.length c2] w1 fun e w' => e = .returned (.int .i64 0) ∧ Below w1.heap.size w1 w' := fun w1 hb1 => refCheck_yes lb A2 c2 w1 (by omega) (lift lb A2 w1 hA2 hb1) hb
  have H2 := Lib.hid H2
  have HA := Lib.hid hA
  have HA2 := Lib.hid hA2
  have HL := Lib.hid lift
  have Hsa := Lib.hid hsa
  have Hsb := Lib.hid hsb
  clear hA hA2 ha hb lift hsa hsb
  go_enter Try.func31, Try.ntmps31
  go_upto_region 3 with (first
    | (go_at_call 20; (with_reducible refine H1.out.mono ?_); go_must (rintro e w1 ⟨rfl, hb1⟩))
    | (go_at_call 20; (with_reducible refine (H2.out w1 hb1).mono ?_); go_must (rintro e w2 ⟨rfl, hb2⟩))
    | fail)
  have hB2 := hb1.trans (hb2.mono hb1.size)
  have HI0 := Lib.hid (RcI.start la lb w.heap.size w2)
  go_wp2
  go_loopw [6, 7, 8] (fun v a b wr => ∃ (i j : Nat) (l : List Bi) (L : List Bd), a = .int .i64 (i : Int) ∧ b = .int .i64 (j : Int) ∧ Below w.heap.size w wr ∧ Hid (RcI la lb w.heap.size wr i j v l L)) (fun _ a b _ => (la.length - (intOf a).toNat) + (lb.length - (intOf b).toNat))
  case atStart => exact ⟨0, 0, [], [], rfl, rfl, hB2, HI0⟩
  case round =>
    obtain ⟨i, j, l, L, rfl, rfl, hBr, H⟩ := hrel
    have hil := H.out.li
    have hjl := H.out.lj
    by_cases hmore : i < la.length ∨ j < lb.length
    · have q0 := heap_alloc_new wr (.cells #[.int .i64 0, .int .i64 0, .slice none 0 0] 81)
      obtain ⟨W, hW⟩ : ∃ W, wr.alloc (.cells #[.int .i64 0, .int .i64 0, .slice none 0 0] 81) = W := ⟨_, rfl⟩
      have hBx : Below wr.heap.size wr W := by rw [← hW]; exact (Below.refl _ _).alloc (Nat.le_refl _) _
      rw [hW] at q0
      have hWs : wr.heap.size < W.heap.size := (Array.getElem?_eq_some_iff.1 q0).1
      have hBW : Below w.heap.size w W := hBr.trans (hBx.mono hBr.size)
      have HW := Lib.hid hW
      clear hW
      by_cases h1 : i < la.length
      · obtain ⟨x, hx⟩ : ∃ x, la[i]? = some x := ⟨_, List.getElem?_eq_getElem h1⟩
        obtain ⟨xb, xo, xA, xc, rfl, xh⟩ := HA.out.get hx
        have hi1 : (i : Int) < (la.length : Int) := by omega
        have hlt1 : decide (i < la.length) = true := decide_eq_true h1
        have Hx := Lib.hid hx
        clear hx
        by_cases h2 : j < lb.length
        · obtain ⟨y, hy⟩ : ∃ y, lb[j]? = some y := ⟨_, List.getElem?_eq_getElem h2⟩
          obtain ⟨yb, yo, yA, yc, rfl, yh⟩ := HA2.out.get hy
          have hj1 : (j : Int) < (lb.length : Int) := by omega
          have Hy := Lib.hid hy
          clear hy
          have rx : ∀ x' : Later W.heap.size W, x'.w.cell? ⟨xb, xo + i * 3, none⟩ = some (.int .i64 x.v) := fun x' => cell_on (hBW.trans (x'.h.mono hBW.size)) xh.hb xh.c0
          have ry : ∀ x' : Later W.heap.size W, x'.w.cell? ⟨yb, yo + j * 3, none⟩ = some (.int .i64 y.v) := fun x' => cell_on (hBW.trans (x'.h.mono hBW.size)) yh.hb yh.c0
          have hge : decide (lb.length ≤ j) = false := decide_eq_false (by omega)
          have hlt2 : decide (j < lb.length) = true := decide_eq_true h2
          by_cases hle : x.v ≤ y.v
          · have hle' := decide_eq_true hle
            go_upto_region 7 with fail
            rw [HW.out]
            refine wp_region_later W.heap.size W (by kernel_rfl) (by kernel_rfl) (bl_drewN (Below.refl _ _) 1) ?_
            repeat (go_big_quiet_step (fail))
            refine wpQuiet_nil ?_
            intro W7 hW7e
            have hb7 : Below W.heap.size W W7 := by obtain ⟨x', rfl⟩ := hW7e; exact x'.h
            clear hW7e rx ry
            have hW7 : Below w.heap.size w W7 := hBW.trans (hb7.mono hBW.size)
            have q7 := (hb7.block _ hWs).trans q0
            obtain ⟨z0, z1, z2, g0, g1, g2⟩ := cells_three q7
            have Hyh := Lib.hid yh
            have x0 := cell_on hW7 xh.hb xh.c0
            have x1 := cell_on hW7 xh.hb xh.c1
            have x2 := cell_on hW7 xh.hb xh.c2
            have hSS : ∀ w', Below (wr.heap.size) W7 w' → w'.cell? ⟨xb, xo + i * 3, none⟩ = some (.int .i64 x.v) ∧ w'.cell? ⟨xb, xo + i * 3 + 1, none⟩ = some (.int .i64 x.t.fn) ∧ w'.cell? ⟨xb, xo + i * 3 + 1 + 1, none⟩ = some (.slice xA x.t.args.length xc) := fun w' h => ⟨cell_on h (Nat.lt_of_lt_of_le xh.hb hBr.size) x0, cell_on h (Nat.lt_of_lt_of_le xh.hb hBr.size) x1, cell_on h (Nat.lt_of_lt_of_le xh.hb hBr.size) x2⟩
            have hcall := Lib.hid (refApply_at lb Hsb.out x.t (Hsa.out x (List.mem_of_getElem? Hx.out)) (some ⟨yb, yo, none⟩) c2 xA xc W7.drew (HL.out lb _ W7.drew HA2.out (bl_drewN hW7 1)) xh.it (((xh.sub.keep fun g e => hW7.block g e).args fun g e => Nat.lt_of_lt_of_le e hW7.size).drewN 1))
            have Hxh := Lib.hid xh
            have hwW7 : wr.heap.size ≤ W7.heap.size := Nat.le_trans hBx.size hb7.size
            go_upto_region 8 with fail
            go_region_held3 (fun w' => w'.cell? ⟨xb, xo + i * 3, none⟩ = some (.int .i64 x.v) ∧ w'.cell? ⟨xb, xo + i * 3 + 1, none⟩ = some (.int .i64 x.t.fn) ∧ w'.cell? ⟨xb, xo + i * 3 + 1 + 1, none⟩ = some (.slice xA x.t.args.length xc))
              (first | exact ⟨x0, x1, x2⟩ | exact hSS _ (hB8.mono hwW7) | exact hSS _ ((((hB8.mono hwW7).setCell (by show _ ≤ wr.heap.size; omega) _).setCell (by show _ ≤ wr.heap.size; omega) _).setCell (by show _ ≤ wr.heap.size; omega) _) | fail)
              (first
                | (go_at_call 64; (with_reducible refine hcall.out.mono ?_); go_must (rintro e w8 ⟨A8, c8, rfl, hA8, hb8⟩; have hB8 : Below W7.heap.size W7 w8 := ⟨hb8.os, hb8.tape, hb8.output, hb8.size, hb8.block⟩; have q8 := (hB8.block _ (Nat.lt_of_lt_of_le hWs hb7.size)).trans q7; obtain ⟨y80, y81, y82, f80, f81, f82⟩ := cells_three q8; have HA8 := Lib.hid hA8; clear hA8))
                | fail)
            obtain ⟨W8, hW8⟩ : ∃ W8, ((w8.setCell ⟨wr.heap.size, 0, none⟩ (.int .i64 (thenB lb x).v)).setCell ⟨wr.heap.size, 1, none⟩ (.int .i64 (thenB lb x).t.fn)).setCell ⟨wr.heap.size, 2, none⟩ (.slice A8 (thenB lb x).t.args.length c8) = W8 := ⟨_, rfl⟩
            have hBW8 : Below w.heap.size w W8 := by rw [← hW8]; exact ((((hW7.trans (hB8.mono hW7.size)).setCell (by show _ ≤ wr.heap.size; exact hBr.size) _).setCell (by show _ ≤ wr.heap.size; exact hBr.size) _).setCell (by show _ ≤ wr.heap.size; exact hBr.size) _)
            have HX8 : ∀ i' j', NextB la lb i j i' j' (thenB lb x) → RcX la lb w.heap.size wr.heap.size W8 i j i' j' u6 l L (thenB lb x) A8 c8 := by
              intro i' j' nx
              rw [← hW8]
              exact rcx_of (x := (thenB lb x)) (b := wr.heap.size) (c := c8) H.out.row hBr.size rfl hBx q0 (hb7.trans (hB8.mono hb7.size)) nx Hxh.out.iv (appT_fn64 HA2.out Hxh.out.it) (HA8.out.wide fun g e => ⟨Nat.le_trans hb7.size e.1, e.2⟩)
            have HX8 := Lib.hid HX8
            have HW8 := Lib.hid (show ((((w8.setCell ⟨wr.heap.size, 0, none⟩ (.int .i64 x.v)).setCell ⟨wr.heap.size, 1, none⟩ (.int .i64 (appT (bdT lb) x.t).fn)).setCell ⟨wr.heap.size, 2, none⟩ (.slice A8 (appT (bdT lb) x.t).args.length c8)) : World) = W8 from hW8)
            clear hW8 y80 y81 y82 f80 f81 f82 x0 x1 x2 z0 z1 z2 g0 g1 g2
            by_cases he : y.v = x.v
            · have he' : ((y.v : Int) == x.v) = true := by simp [he]
              have HX8 := Lib.hid (HX8.out _ _ (next_a2 Hx.out Hy.out hle he))
              rw [HW8.out]
              have rx : ∀ x' : Later W8.heap.size W8, x'.w.cell? ⟨xb, xo + i * 3, none⟩ = some (.int .i64 x.v) := fun x' => cell_on (hBW8.trans (x'.h.mono hBW8.size)) Hxh.out.hb Hxh.out.c0
              have ry : ∀ x' : Later W8.heap.size W8, x'.w.cell? ⟨yb, yo + j * 3, none⟩ = some (.int .i64 y.v) := fun x' => cell_on (hBW8.trans (x'.h.mono hBW8.size)) Hyh.out.hb Hyh.out.c0
              go_upto_region 9 with fail
              refine wp_region_later W8.heap.size W8 (by kernel_rfl) (by kernel_rfl) (bl_drewN (Below.refl _ _) 1) ?_
              repeat (go_big_quiet_step (fail))
              refine wpQuiet_nil ?_
              intro W9 hW9e
              have hb9 : Below W8.heap.size W8 W9 := by obtain ⟨x', rfl⟩ := hW9e; exact x'.h
              clear hW9e
              have hBW9 : Below w.heap.size w W9 := hBW8.trans (hb9.mono hBW8.size)
              have HX := Lib.hid (HX8.out.on hb9)
              clear rx ry he he' hle hle' hge hlt1 hlt2 hi1 hj1
              go_upto_region 14 with fail
              obtain ⟨t0, t1, t2, _, _, _⟩ := cells_three HX.out.box
              have hlt9 := (Array.getElem?_eq_some_iff.1 HX.out.box).1
              have HIT := Lib.hid (refItself_bd (thenB lb x) A8 c8 W9 HX.out.fx.iv)
              have hmv := HX.out.nx.lt
              have hml := HX.out.nx.li
              have hmj := HX.out.nx.lj
              by_cases hs : selfB (thenB lb x)
              · have hs' := Lib.hid (decide_eq_true hs)
                go_wp2_with (first
                  | (go_at_call 57; refine HIT.out.mono ?_; go_must (rintro e w10 ⟨rfl, hb10⟩; rw [hs'.out]))
                  | fail)
                have hnI := Lib.hid (HX.out.skip (H.out.on HX.out.row) hs hb10)
                have hB10 := hBW9.trans (hb10.mono hBW9.size)
                first
                  | (go_roundw
                     case rel => exact ⟨_, _, l, L, by go_num, by go_num, hB10, hnI⟩
                     case measure => simp [intOf]; omega)
                  | exact ⟨⟨_, _, l, L, by go_num, by go_num, hB10, hnI⟩, by simp [intOf]; omega⟩
              · have hs' := Lib.hid (decide_eq_false hs)
                have hcnt := H.out.cnt
                have hrow := HX.out.row.row.row
                rw [HX.out.row.len] at hrow
                obtain ⟨Av, cv, hv⟩ := row_own hrow
                subst hv
                have hrl := row_lt hrow
                have Hrow := Lib.hid hrow
                clear hrow
                go_wp2_with (first
                  | (go_at_call 57; refine HIT.out.mono ?_; go_must (rintro e w10 ⟨rfl, hb10⟩; rw [hs'.out]; obtain ⟨s0, s1, s2, _, _, _⟩ := cells_three ((hb10.block _ hlt9).trans HX.out.box)))
                  | (at_builtin
                     go_must (
                     refine wpList_append_own_at _ rfl _ _ 23 rfl w.heap.size 81 i0 (.agg #[.int .i64 0, .int .i64 0, .slice none 0 0]) 3 40 Try.underlying23 hi hz0 hz1 hz2 rfl (by decide) (.slice Av L.length cv) L.length _ rfl (row_keep Hrow.out fun g e => (Below.heap_alloc w10 _ g (Nat.lt_of_lt_of_le (hrl g e).2 hb10.size)).trans (hb10.block g (hrl g e).2)) ⟨w10.heap.size, 0, none⟩ 1 1 [.int .i64 (thenB lb x).v, .int .i64 (thenB lb x).t.fn, .slice A8 (thenB lb x).t.args.length c8] rfl rfl (cells_new_bind _ _ _ _ _) (by simp [Value.oneCell']) (by unfold maxLen; omega) (by omega) (by have := hBW9.size; have := hb10.size; simp; omega) ?_
                     intro v5 w5 hown5 hgr5 _ hat5
                     have hnI := Lib.hid ((HX.out.on hb10).next (H.out.on (HX.out.on hb10).row) hs hown5 hgr5 hat5)
                     have hB5 : Below w.heap.size w w5 := ((hBW9.trans (hb10.mono hBW9.size)).alloc (Nat.le_trans hBW9.size hb10.size) _).grown hgr5 (by have := hBW9.size; have := hb10.size; simp; omega) (fun g e => (hrl g e).1)
                     clear hown5 hgr5 hat5))
                  | fail)
                go_roundw
                case rel => exact ⟨_, _, _, _, by go_num, by go_num, hB5, hnI⟩
                case measure => simp [intOf]; omega
            · have he' : ((y.v : Int) == x.v) = false := by simp [he]
              have HX8 := Lib.hid (HX8.out _ _ (next_a1 Hx.out Hy.out hle he))
              rw [HW8.out]
              have rx : ∀ x' : Later W8.heap.size W8, x'.w.cell? ⟨xb, xo + i * 3, none⟩ = some (.int .i64 x.v) := fun x' => cell_on (hBW8.trans (x'.h.mono hBW8.size)) Hxh.out.hb Hxh.out.c0
              have ry : ∀ x' : Later W8.heap.size W8, x'.w.cell? ⟨yb, yo + j * 3, none⟩ = some (.int .i64 y.v) := fun x' => cell_on (hBW8.trans (x'.h.mono hBW8.size)) Hyh.out.hb Hyh.out.c0
              go_upto_region 9 with fail
              refine wp_region_later W8.heap.size W8 (by kernel_rfl) (by kernel_rfl) (bl_drewN (Below.refl _ _) 1) ?_
              repeat (go_big_quiet_step (fail))
              refine wpQuiet_nil ?_
              intro W9 hW9e
              have hb9 : Below W8.heap.size W8 W9 := by obtain ⟨x', rfl⟩ := hW9e; exact x'.h
              clear hW9e
              have hBW9 : Below w.heap.size w W9 := hBW8.trans (hb9.mono hBW8.size)
              have HX := Lib.hid (HX8.out.on hb9)
              clear rx ry he he' hle hle' hge hlt1 hlt2 hi1 hj1
              go_upto_region 14 with fail
              obtain ⟨t0, t1, t2, _, _, _⟩ := cells_three HX.out.box
              have hlt9 := (Array.getElem?_eq_some_iff.1 HX.out.box).1
              have HIT := Lib.hid (refItself_bd (thenB lb x) A8 c8 W9 HX.out.fx.iv)
              have hmv := HX.out.nx.lt
              have hml := HX.out.nx.li
              have hmj := HX.out.nx.lj
              by_cases hs : selfB (thenB lb x)
              · have hs' := Lib.hid (decide_eq_true hs)
                go_wp2_with (first
                  | (go_at_call 57; refine HIT.out.mono ?_; go_must (rintro e w10 ⟨rfl, hb10⟩; rw [hs'.out]))
                  | fail)
                have hnI := Lib.hid (HX.out.skip (H.out.on HX.out.row) hs hb10)
                have hB10 := hBW9.trans (hb10.mono hBW9.size)
                first
                  | (go_roundw
                     case rel => exact ⟨_, _, l, L, by go_num, by go_num, hB10, hnI⟩
                     case measure => simp [intOf]; omega)
                  | exact ⟨⟨_, _, l, L, by go_num, by go_num, hB10, hnI⟩, by simp [intOf]; omega⟩
              · have hs' := Lib.hid (decide_eq_false hs)
                have hcnt := H.out.cnt
                have hrow := HX.out.row.row.row
                rw [HX.out.row.len] at hrow
                obtain ⟨Av, cv, hv⟩ := row_own hrow
                subst hv
                have hrl := row_lt hrow
                have Hrow := Lib.hid hrow
                clear hrow
                go_wp2_with (first
                  | (go_at_call 57; refine HIT.out.mono ?_; go_must (rintro e w10 ⟨rfl, hb10⟩; rw [hs'.out]; obtain ⟨s0, s1, s2, _, _, _⟩ := cells_three ((hb10.block _ hlt9).trans HX.out.box)))
                  | (at_builtin
                     go_must (
                     refine wpList_append_own_at _ rfl _ _ 23 rfl w.heap.size 81 i0 (.agg #[.int .i64 0, .int .i64 0, .slice none 0 0]) 3 40 Try.underlying23 hi hz0 hz1 hz2 rfl (by decide) (.slice Av L.length cv) L.length _ rfl (row_keep Hrow.out fun g e => (Below.heap_alloc w10 _ g (Nat.lt_of_lt_of_le (hrl g e).2 hb10.size)).trans (hb10.block g (hrl g e).2)) ⟨w10.heap.size, 0, none⟩ 1 1 [.int .i64 (thenB lb x).v, .int .i64 (thenB lb x).t.fn, .slice A8 (thenB lb x).t.args.length c8] rfl rfl (cells_new_bind _ _ _ _ _) (by simp [Value.oneCell']) (by unfold maxLen; omega) (by omega) (by have := hBW9.size; have := hb10.size; simp; omega) ?_
                     intro v5 w5 hown5 hgr5 _ hat5
                     have hnI := Lib.hid ((HX.out.on hb10).next (H.out.on (HX.out.on hb10).row) hs hown5 hgr5 hat5)
                     have hB5 : Below w.heap.size w w5 := ((hBW9.trans (hb10.mono hBW9.size)).alloc (Nat.le_trans hBW9.size hb10.size) _).grown hgr5 (by have := hBW9.size; have := hb10.size; simp; omega) (fun g e => (hrl g e).1)
                     clear hown5 hgr5 hat5))
                  | fail)
                go_roundw
                case rel => exact ⟨_, _, _, _, by go_num, by go_num, hB5, hnI⟩
                case measure => simp [intOf]; omega
          · have hle' := decide_eq_false hle
            go_upto_region 7 with fail
            rw [HW.out]
            refine wp_region_later W.heap.size W (by kernel_rfl) (by kernel_rfl) (bl_drewN (Below.refl _ _) 1) ?_
            repeat (go_big_quiet_step (fail))
            refine wpQuiet_nil ?_
            intro W7 hW7e
            have hb7 : Below W.heap.size W W7 := by obtain ⟨x', rfl⟩ := hW7e; exact x'.h
            clear hW7e rx ry
            have hW7 : Below w.heap.size w W7 := hBW.trans (hb7.mono hBW.size)
            have q7 := (hb7.block _ hWs).trans q0
            obtain ⟨z0, z1, z2, g0, g1, g2⟩ := cells_three q7
            have y0 := cell_on hW7 yh.hb yh.c0
            have y1 := cell_on hW7 yh.hb yh.c1
            have y2 := cell_on hW7 yh.hb yh.c2
            have hSS : ∀ w', Below (wr.heap.size) W7 w' → w'.cell? ⟨yb, yo + j * 3, none⟩ = some (.int .i64 y.v) ∧ w'.cell? ⟨yb, yo + j * 3 + 1, none⟩ = some (.int .i64 y.t.fn) ∧ w'.cell? ⟨yb, yo + j * 3 + 1 + 1, none⟩ = some (.slice yA y.t.args.length yc) := fun w' h => ⟨cell_on h (Nat.lt_of_lt_of_le yh.hb hBr.size) y0, cell_on h (Nat.lt_of_lt_of_le yh.hb hBr.size) y1, cell_on h (Nat.lt_of_lt_of_le yh.hb hBr.size) y2⟩
            have hcall := Lib.hid (refCopy_at y.t (Hsb.out y (List.mem_of_getElem? Hy.out)) yA yc W7.drew yh.it (((yh.sub.keep fun g e => hW7.block g e).args fun g e => Nat.lt_of_lt_of_le e hW7.size).drewN 1))
            have Hyh := Lib.hid yh
            have hwW7 : wr.heap.size ≤ W7.heap.size := Nat.le_trans hBx.size hb7.size
            go_upto_region 12 with fail
            go_region_held3 (fun w' => w'.cell? ⟨yb, yo + j * 3, none⟩ = some (.int .i64 y.v) ∧ w'.cell? ⟨yb, yo + j * 3 + 1, none⟩ = some (.int .i64 y.t.fn) ∧ w'.cell? ⟨yb, yo + j * 3 + 1 + 1, none⟩ = some (.slice yA y.t.args.length yc))
              (first | exact ⟨y0, y1, y2⟩ | exact hSS _ (hB8.mono hwW7) | exact hSS _ ((((hB8.mono hwW7).setCell (by show _ ≤ wr.heap.size; omega) _).setCell (by show _ ≤ wr.heap.size; omega) _).setCell (by show _ ≤ wr.heap.size; omega) _) | fail)
              (first
                | (go_at_call 55; (with_reducible refine hcall.out.mono ?_); go_must (rintro e w8 ⟨A8, c8, rfl, hA8, hb8⟩; have hB8 : Below W7.heap.size W7 w8 := ⟨hb8.os, hb8.tape, hb8.output, hb8.size, hb8.block⟩; have q8 := (hB8.block _ (Nat.lt_of_lt_of_le hWs hb7.size)).trans q7; obtain ⟨y80, y81, y82, f80, f81, f82⟩ := cells_three q8; have HA8 := Lib.hid hA8; clear hA8))
                | fail)
            obtain ⟨W8, hW8⟩ : ∃ W8, ((w8.setCell ⟨wr.heap.size, 0, none⟩ (.int .i64 y.v)).setCell ⟨wr.heap.size, 1, none⟩ (.int .i64 y.t.fn)).setCell ⟨wr.heap.size, 2, none⟩ (.slice A8 y.t.args.length c8) = W8 := ⟨_, rfl⟩
            have hBW8 : Below w.heap.size w W8 := by rw [← hW8]; exact ((((hW7.trans (hB8.mono hW7.size)).setCell (by show _ ≤ wr.heap.size; exact hBr.size) _).setCell (by show _ ≤ wr.heap.size; exact hBr.size) _).setCell (by show _ ≤ wr.heap.size; exact hBr.size) _)
            have HX8 : ∀ i' j', NextB la lb i j i' j' y → RcX la lb w.heap.size wr.heap.size W8 i j i' j' u6 l L y A8 c8 := by
              intro i' j' nx
              rw [← hW8]
              exact rcx_of (x := y) (b := wr.heap.size) (c := c8) H.out.row hBr.size rfl hBx q0 (hb7.trans (hB8.mono hb7.size)) nx Hyh.out.iv (Hyh.out.it) (HA8.out.wide fun g e => ⟨Nat.le_trans hb7.size e.1, e.2⟩)
            have HX8 := Lib.hid HX8
            have HW8 := Lib.hid (show ((((w8.setCell ⟨wr.heap.size, 0, none⟩ (.int .i64 y.v)).setCell ⟨wr.heap.size, 1, none⟩ (.int .i64 y.t.fn)).setCell ⟨wr.heap.size, 2, none⟩ (.slice A8 y.t.args.length c8)) : World) = W8 from hW8)
            clear hW8 y80 y81 y82 f80 f81 f82 y0 y1 y2 z0 z1 z2 g0 g1 g2
            have HX := Lib.hid (HX8.out _ _ (next_b1 Hx.out Hy.out (by omega)))
            rw [HW8.out]
            obtain ⟨W9, hW9⟩ : ∃ W9, W8 = W9 := ⟨_, rfl⟩
            subst hW9
            have hBW9 := hBW8
            clear hle hle' hge hlt1 hlt2 hi1 hj1
            go_upto_region 14 with fail
            obtain ⟨t0, t1, t2, _, _, _⟩ := cells_three HX.out.box
            have hlt9 := (Array.getElem?_eq_some_iff.1 HX.out.box).1
            have HIT := Lib.hid (refItself_bd y A8 c8 W8 HX.out.fx.iv)
            have hmv := HX.out.nx.lt
            have hml := HX.out.nx.li
            have hmj := HX.out.nx.lj
            by_cases hs : selfB y
            · have hs' := Lib.hid (decide_eq_true hs)
              go_wp2_with (first
                | (go_at_call 57; refine HIT.out.mono ?_; go_must (rintro e w10 ⟨rfl, hb10⟩; rw [hs'.out]))
                | fail)
              have hnI := Lib.hid (HX.out.skip (H.out.on HX.out.row) hs hb10)
              have hB10 := hBW9.trans (hb10.mono hBW9.size)
              first
                | (go_roundw
                   case rel => exact ⟨_, _, l, L, by go_num, by go_num, hB10, hnI⟩
                   case measure => simp [intOf]; omega)
                | exact ⟨⟨_, _, l, L, by go_num, by go_num, hB10, hnI⟩, by simp [intOf]; omega⟩
            · have hs' := Lib.hid (decide_eq_false hs)
              have hcnt := H.out.cnt
              have hrow := HX.out.row.row.row
              rw [HX.out.row.len] at hrow
              obtain ⟨Av, cv, hv⟩ := row_own hrow
              subst hv
              have hrl := row_lt hrow
              have Hrow := Lib.hid hrow
              clear hrow
              go_wp2_with (first
                | (go_at_call 57; refine HIT.out.mono ?_; go_must (rintro e w10 ⟨rfl, hb10⟩; rw [hs'.out]; obtain ⟨s0, s1, s2, _, _, _⟩ := cells_three ((hb10.block _ hlt9).trans HX.out.box)))
                | (at_builtin
                   go_must (
                   refine wpList_append_own_at _ rfl _ _ 23 rfl w.heap.size 81 i0 (.agg #[.int .i64 0, .int .i64 0, .slice none 0 0]) 3 40 Try.underlying23 hi hz0 hz1 hz2 rfl (by decide) (.slice Av L.length cv) L.length _ rfl (row_keep Hrow.out fun g e => (Below.heap_alloc w10 _ g (Nat.lt_of_lt_of_le (hrl g e).2 hb10.size)).trans (hb10.block g (hrl g e).2)) ⟨w10.heap.size, 0, none⟩ 1 1 [.int .i64 y.v, .int .i64 y.t.fn, .slice A8 y.t.args.length c8] rfl rfl (cells_new_bind _ _ _ _ _) (by simp [Value.oneCell']) (by unfold maxLen; omega) (by omega) (by have := hBW9.size; have := hb10.size; simp; omega) ?_
                   intro v5 w5 hown5 hgr5 _ hat5
                   have hnI := Lib.hid ((HX.out.on hb10).next (H.out.on (HX.out.on hb10).row) hs hown5 hgr5 hat5)
                   have hB5 : Below w.heap.size w w5 := ((hBW9.trans (hb10.mono hBW9.size)).alloc (Nat.le_trans hBW9.size hb10.size) _).grown hgr5 (by have := hBW9.size; have := hb10.size; simp; omega) (fun g e => (hrl g e).1)
                   clear hown5 hgr5 hat5))
                | fail)
              go_roundw
              case rel => exact ⟨_, _, _, _, by go_num, by go_num, hB5, hnI⟩
              case measure => simp [intOf]; omega
        · have hge : decide (lb.length ≤ j) = true := decide_eq_true (by omega)
          have hlt2 : decide (j < lb.length) = false := decide_eq_false h2
          go_upto_region 7 with fail
          rw [HW.out]
          refine wp_region_later W.heap.size W (by kernel_rfl) (by kernel_rfl) (bl_drewN (Below.refl _ _) 1) ?_
          repeat (go_big_quiet_step (fail))
          refine wpQuiet_nil ?_
          intro W7 hW7e
          have hb7 : Below W.heap.size W W7 := by obtain ⟨x', rfl⟩ := hW7e; exact x'.h
          clear hW7e 
          have hW7 : Below w.heap.size w W7 := hBW.trans (hb7.mono hBW.size)
          have q7 := (hb7.block _ hWs).trans q0
          obtain ⟨z0, z1, z2, g0, g1, g2⟩ := cells_three q7
          have x0 := cell_on hW7 xh.hb xh.c0
          have x1 := cell_on hW7 xh.hb xh.c1
          have x2 := cell_on hW7 xh.hb xh.c2
          have hSS : ∀ w', Below (wr.heap.size) W7 w' → w'.cell? ⟨xb, xo + i * 3, none⟩ = some (.int .i64 x.v) ∧ w'.cell? ⟨xb, xo + i * 3 + 1, none⟩ = some (.int .i64 x.t.fn) ∧ w'.cell? ⟨xb, xo + i * 3 + 1 + 1, none⟩ = some (.slice xA x.t.args.length xc) := fun w' h => ⟨cell_on h (Nat.lt_of_lt_of_le xh.hb hBr.size) x0, cell_on h (Nat.lt_of_lt_of_le xh.hb hBr.size) x1, cell_on h (Nat.lt_of_lt_of_le xh.hb hBr.size) x2⟩
          have hcall := Lib.hid (refApply_at lb Hsb.out x.t (Hsa.out x (List.mem_of_getElem? Hx.out)) A2 c2 xA xc W7.drew (HL.out lb _ W7.drew HA2.out (bl_drewN hW7 1)) xh.it (((xh.sub.keep fun g e => hW7.block g e).args fun g e => Nat.lt_of_lt_of_le e hW7.size).drewN 1))
          have Hxh := Lib.hid xh
          have hwW7 : wr.heap.size ≤ W7.heap.size := Nat.le_trans hBx.size hb7.size
          go_upto_region 8 with fail
          go_region_held3 (fun w' => w'.cell? ⟨xb, xo + i * 3, none⟩ = some (.int .i64 x.v) ∧ w'.cell? ⟨xb, xo + i * 3 + 1, none⟩ = some (.int .i64 x.t.fn) ∧ w'.cell? ⟨xb, xo + i * 3 + 1 + 1, none⟩ = some (.slice xA x.t.args.length xc))
            (first | exact ⟨x0, x1, x2⟩ | exact hSS _ (hB8.mono hwW7) | exact hSS _ ((((hB8.mono hwW7).setCell (by show _ ≤ wr.heap.size; omega) _).setCell (by show _ ≤ wr.heap.size; omega) _).setCell (by show _ ≤ wr.heap.size; omega) _) | fail)
            (first
              | (go_at_call 64; (with_reducible refine hcall.out.mono ?_); go_must (rintro e w8 ⟨A8, c8, rfl, hA8, hb8⟩; have hB8 : Below W7.heap.size W7 w8 := ⟨hb8.os, hb8.tape, hb8.output, hb8.size, hb8.block⟩; have q8 := (hB8.block _ (Nat.lt_of_lt_of_le hWs hb7.size)).trans q7; obtain ⟨y80, y81, y82, f80, f81, f82⟩ := cells_three q8; have HA8 := Lib.hid hA8; clear hA8))
              | fail)
          obtain ⟨W8, hW8⟩ : ∃ W8, ((w8.setCell ⟨wr.heap.size, 0, none⟩ (.int .i64 (thenB lb x).v)).setCell ⟨wr.heap.size, 1, none⟩ (.int .i64 (thenB lb x).t.fn)).setCell ⟨wr.heap.size, 2, none⟩ (.slice A8 (thenB lb x).t.args.length c8) = W8 := ⟨_, rfl⟩
          have hBW8 : Below w.heap.size w W8 := by rw [← hW8]; exact ((((hW7.trans (hB8.mono hW7.size)).setCell (by show _ ≤ wr.heap.size; exact hBr.size) _).setCell (by show _ ≤ wr.heap.size; exact hBr.size) _).setCell (by show _ ≤ wr.heap.size; exact hBr.size) _)
          have HX8 : ∀ i' j', NextB la lb i j i' j' (thenB lb x) → RcX la lb w.heap.size wr.heap.size W8 i j i' j' u6 l L (thenB lb x) A8 c8 := by
            intro i' j' nx
            rw [← hW8]
            exact rcx_of (x := (thenB lb x)) (b := wr.heap.size) (c := c8) H.out.row hBr.size rfl hBx q0 (hb7.trans (hB8.mono hb7.size)) nx Hxh.out.iv (appT_fn64 HA2.out Hxh.out.it) (HA8.out.wide fun g e => ⟨Nat.le_trans hb7.size e.1, e.2⟩)
          have HX8 := Lib.hid HX8
          have HW8 := Lib.hid (show ((((w8.setCell ⟨wr.heap.size, 0, none⟩ (.int .i64 x.v)).setCell ⟨wr.heap.size, 1, none⟩ (.int .i64 (appT (bdT lb) x.t).fn)).setCell ⟨wr.heap.size, 2, none⟩ (.slice A8 (appT (bdT lb) x.t).args.length c8)) : World) = W8 from hW8)
          clear hW8 y80 y81 y82 f80 f81 f82 x0 x1 x2 z0 z1 z2 g0 g1 g2
          have HX8 := Lib.hid (HX8.out _ _ (next_a0 Hx.out (by omega) hjl))
          rw [HW8.out]
          go_upto_region 9 with fail
          refine wp_region_later W8.heap.size W8 (by kernel_rfl) (by kernel_rfl) (bl_drewN (Below.refl _ _) 1) ?_
          repeat (go_big_quiet_step (fail))
          refine wpQuiet_nil ?_
          intro W9 hW9e
          have hb9 : Below W8.heap.size W8 W9 := by obtain ⟨x', rfl⟩ := hW9e; exact x'.h
          clear hW9e
          have hBW9 : Below w.heap.size w W9 := hBW8.trans (hb9.mono hBW8.size)
          have HX := Lib.hid (HX8.out.on hb9)
          clear hge hlt1 hlt2 hi1
          go_upto_region 14 with fail
          obtain ⟨t0, t1, t2, _, _, _⟩ := cells_three HX.out.box
          have hlt9 := (Array.getElem?_eq_some_iff.1 HX.out.box).1
          have HIT := Lib.hid (refItself_bd (thenB lb x) A8 c8 W9 HX.out.fx.iv)
          have hmv := HX.out.nx.lt
          have hml := HX.out.nx.li
          have hmj := HX.out.nx.lj
          by_cases hs : selfB (thenB lb x)
          · have hs' := Lib.hid (decide_eq_true hs)
            go_wp2_with (first
              | (go_at_call 57; refine HIT.out.mono ?_; go_must (rintro e w10 ⟨rfl, hb10⟩; rw [hs'.out]))
              | fail)
            have hnI := Lib.hid (HX.out.skip (H.out.on HX.out.row) hs hb10)
            have hB10 := hBW9.trans (hb10.mono hBW9.size)
            first
              | (go_roundw
                 case rel => exact ⟨_, _, l, L, by go_num, by go_num, hB10, hnI⟩
                 case measure => simp [intOf]; omega)
              | exact ⟨⟨_, _, l, L, by go_num, by go_num, hB10, hnI⟩, by simp [intOf]; omega⟩
          · have hs' := Lib.hid (decide_eq_false hs)
            have hcnt := H.out.cnt
            have hrow := HX.out.row.row.row
            rw [HX.out.row.len] at hrow
            obtain ⟨Av, cv, hv⟩ := row_own hrow
            subst hv
            have hrl := row_lt hrow
            have Hrow := Lib.hid hrow
            clear hrow
            go_wp2_with (first
              | (go_at_call 57; refine HIT.out.mono ?_; go_must (rintro e w10 ⟨rfl, hb10⟩; rw [hs'.out]; obtain ⟨s0, s1, s2, _, _, _⟩ := cells_three ((hb10.block _ hlt9).trans HX.out.box)))
              | (at_builtin
                 go_must (
                 refine wpList_append_own_at _ rfl _ _ 23 rfl w.heap.size 81 i0 (.agg #[.int .i64 0, .int .i64 0, .slice none 0 0]) 3 40 Try.underlying23 hi hz0 hz1 hz2 rfl (by decide) (.slice Av L.length cv) L.length _ rfl (row_keep Hrow.out fun g e => (Below.heap_alloc w10 _ g (Nat.lt_of_lt_of_le (hrl g e).2 hb10.size)).trans (hb10.block g (hrl g e).2)) ⟨w10.heap.size, 0, none⟩ 1 1 [.int .i64 (thenB lb x).v, .int .i64 (thenB lb x).t.fn, .slice A8 (thenB lb x).t.args.length c8] rfl rfl (cells_new_bind _ _ _ _ _) (by simp [Value.oneCell']) (by unfold maxLen; omega) (by omega) (by have := hBW9.size; have := hb10.size; simp; omega) ?_
                 intro v5 w5 hown5 hgr5 _ hat5
                 have hnI := Lib.hid ((HX.out.on hb10).next (H.out.on (HX.out.on hb10).row) hs hown5 hgr5 hat5)
                 have hB5 : Below w.heap.size w w5 := ((hBW9.trans (hb10.mono hBW9.size)).alloc (Nat.le_trans hBW9.size hb10.size) _).grown hgr5 (by have := hBW9.size; have := hb10.size; simp; omega) (fun g e => (hrl g e).1)
                 clear hown5 hgr5 hat5))
              | fail)
            go_roundw
            case rel => exact ⟨_, _, _, _, by go_num, by go_num, hB5, hnI⟩
            case measure => simp [intOf]; omega
      · have h2 : j < lb.length := by omega
        obtain ⟨y, hy⟩ : ∃ y, lb[j]? = some y := ⟨_, List.getElem?_eq_getElem h2⟩
        obtain ⟨yb, yo, yA, yc, rfl, yh⟩ := HA2.out.get hy
        have hj1 : (j : Int) < (lb.length : Int) := by omega
        have Hy := Lib.hid hy
        clear hy
        have hge : decide (lb.length ≤ j) = false := decide_eq_false (by omega)
        have hlt1 : decide (i < la.length) = false := decide_eq_false h1
        have hlt2 : decide (j < lb.length) = true := decide_eq_true h2
        go_upto_region 7 with fail
        rw [HW.out]
        refine wp_region_later W.heap.size W (by kernel_rfl) (by kernel_rfl) (bl_drewN (Below.refl _ _) 1) ?_
        repeat (go_big_quiet_step (fail))
        refine wpQuiet_nil ?_
        intro W7 hW7e
        have hb7 : Below W.heap.size W W7 := by obtain ⟨x', rfl⟩ := hW7e; exact x'.h
        clear hW7e 
        have hW7 : Below w.heap.size w W7 := hBW.trans (hb7.mono hBW.size)
        have q7 := (hb7.block _ hWs).trans q0
        obtain ⟨z0, z1, z2, g0, g1, g2⟩ := cells_three q7
        have y0 := cell_on hW7 yh.hb yh.c0
        have y1 := cell_on hW7 yh.hb yh.c1
        have y2 := cell_on hW7 yh.hb yh.c2
        have hSS : ∀ w', Below (wr.heap.size) W7 w' → w'.cell? ⟨yb, yo + j * 3, none⟩ = some (.int .i64 y.v) ∧ w'.cell? ⟨yb, yo + j * 3 + 1, none⟩ = some (.int .i64 y.t.fn) ∧ w'.cell? ⟨yb, yo + j * 3 + 1 + 1, none⟩ = some (.slice yA y.t.args.length yc) := fun w' h => ⟨cell_on h (Nat.lt_of_lt_of_le yh.hb hBr.size) y0, cell_on h (Nat.lt_of_lt_of_le yh.hb hBr.size) y1, cell_on h (Nat.lt_of_lt_of_le yh.hb hBr.size) y2⟩
        have hcall := Lib.hid (refCopy_at y.t (Hsb.out y (List.mem_of_getElem? Hy.out)) yA yc W7.drew yh.it (((yh.sub.keep fun g e => hW7.block g e).args fun g e => Nat.lt_of_lt_of_le e hW7.size).drewN 1))
        have Hyh := Lib.hid yh
        have hwW7 : wr.heap.size ≤ W7.heap.size := Nat.le_trans hBx.size hb7.size
        go_upto_region 12 with fail
        go_region_held3 (fun w' => w'.cell? ⟨yb, yo + j * 3, none⟩ = some (.int .i64 y.v) ∧ w'.cell? ⟨yb, yo + j * 3 + 1, none⟩ = some (.int .i64 y.t.fn) ∧ w'.cell? ⟨yb, yo + j * 3 + 1 + 1, none⟩ = some (.slice yA y.t.args.length yc))
          (first | exact ⟨y0, y1, y2⟩ | exact hSS _ (hB8.mono hwW7) | exact hSS _ ((((hB8.mono hwW7).setCell (by show _ ≤ wr.heap.size; omega) _).setCell (by show _ ≤ wr.heap.size; omega) _).setCell (by show _ ≤ wr.heap.size; omega) _) | fail)
          (first
            | (go_at_call 55; (with_reducible refine hcall.out.mono ?_); go_must (rintro e w8 ⟨A8, c8, rfl, hA8, hb8⟩; have hB8 : Below W7.heap.size W7 w8 := ⟨hb8.os, hb8.tape, hb8.output, hb8.size, hb8.block⟩; have q8 := (hB8.block _ (Nat.lt_of_lt_of_le hWs hb7.size)).trans q7; obtain ⟨y80, y81, y82, f80, f81, f82⟩ := cells_three q8; have HA8 := Lib.hid hA8; clear hA8))
            | fail)
        obtain ⟨W8, hW8⟩ : ∃ W8, ((w8.setCell ⟨wr.heap.size, 0, none⟩ (.int .i64 y.v)).setCell ⟨wr.heap.size, 1, none⟩ (.int .i64 y.t.fn)).setCell ⟨wr.heap.size, 2, none⟩ (.slice A8 y.t.args.length c8) = W8 := ⟨_, rfl⟩
        have hBW8 : Below w.heap.size w W8 := by rw [← hW8]; exact ((((hW7.trans (hB8.mono hW7.size)).setCell (by show _ ≤ wr.heap.size; exact hBr.size) _).setCell (by show _ ≤ wr.heap.size; exact hBr.size) _).setCell (by show _ ≤ wr.heap.size; exact hBr.size) _)
        have HX8 : ∀ i' j', NextB la lb i j i' j' y → RcX la lb w.heap.size wr.heap.size W8 i j i' j' u6 l L y A8 c8 := by
          intro i' j' nx
          rw [← hW8]
          exact rcx_of (x := y) (b := wr.heap.size) (c := c8) H.out.row hBr.size rfl hBx q0 (hb7.trans (hB8.mono hb7.size)) nx Hyh.out.iv (Hyh.out.it) (HA8.out.wide fun g e => ⟨Nat.le_trans hb7.size e.1, e.2⟩)
        have HX8 := Lib.hid HX8
        have HW8 := Lib.hid (show ((((w8.setCell ⟨wr.heap.size, 0, none⟩ (.int .i64 y.v)).setCell ⟨wr.heap.size, 1, none⟩ (.int .i64 y.t.fn)).setCell ⟨wr.heap.size, 2, none⟩ (.slice A8 y.t.args.length c8)) : World) = W8 from hW8)
        clear hW8 y80 y81 y82 f80 f81 f82 y0 y1 y2 z0 z1 z2 g0 g1 g2
        have HX := Lib.hid (HX8.out _ _ (next_b0 (by omega) hil Hy.out))
        rw [HW8.out]
        have hBW9 := hBW8
        clear hge hlt1 hlt2 hj1
        go_upto_region 14 with fail
        obtain ⟨t0, t1, t2, _, _, _⟩ := cells_three HX.out.box
        have hlt9 := (Array.getElem?_eq_some_iff.1 HX.out.box).1
        have HIT := Lib.hid (refItself_bd y A8 c8 W8 HX.out.fx.iv)
        have hmv := HX.out.nx.lt
        have hml := HX.out.nx.li
        have hmj := HX.out.nx.lj
        by_cases hs : selfB y
        · have hs' := Lib.hid (decide_eq_true hs)
          go_wp2_with (first
            | (go_at_call 57; refine HIT.out.mono ?_; go_must (rintro e w10 ⟨rfl, hb10⟩; rw [hs'.out]))
            | fail)
          have hnI := Lib.hid (HX.out.skip (H.out.on HX.out.row) hs hb10)
          have hB10 := hBW9.trans (hb10.mono hBW9.size)
          first
            | (go_roundw
               case rel => exact ⟨_, _, l, L, by go_num, by go_num, hB10, hnI⟩
               case measure => simp [intOf]; omega)
            | exact ⟨⟨_, _, l, L, by go_num, by go_num, hB10, hnI⟩, by simp [intOf]; omega⟩
        · have hs' := Lib.hid (decide_eq_false hs)
          have hcnt := H.out.cnt
          have hrow := HX.out.row.row.row
          rw [HX.out.row.len] at hrow
          obtain ⟨Av, cv, hv⟩ := row_own hrow
          subst hv
          have hrl := row_lt hrow
          have Hrow := Lib.hid hrow
          clear hrow
          go_wp2_with (first
            | (go_at_call 57; refine HIT.out.mono ?_; go_must (rintro e w10 ⟨rfl, hb10⟩; rw [hs'.out]; obtain ⟨s0, s1, s2, _, _, _⟩ := cells_three ((hb10.block _ hlt9).trans HX.out.box)))
            | (at_builtin
               go_must (
               refine wpList_append_own_at _ rfl _ _ 23 rfl w.heap.size 81 i0 (.agg #[.int .i64 0, .int .i64 0, .slice none 0 0]) 3 40 Try.underlying23 hi hz0 hz1 hz2 rfl (by decide) (.slice Av L.length cv) L.length _ rfl (row_keep Hrow.out fun g e => (Below.heap_alloc w10 _ g (Nat.lt_of_lt_of_le (hrl g e).2 hb10.size)).trans (hb10.block g (hrl g e).2)) ⟨w10.heap.size, 0, none⟩ 1 1 [.int .i64 y.v, .int .i64 y.t.fn, .slice A8 y.t.args.length c8] rfl rfl (cells_new_bind _ _ _ _ _) (by simp [Value.oneCell']) (by unfold maxLen; omega) (by omega) (by have := hBW9.size; have := hb10.size; simp; omega) ?_
               intro v5 w5 hown5 hgr5 _ hat5
               have hnI := Lib.hid ((HX.out.on hb10).next (H.out.on (HX.out.on hb10).row) hs hown5 hgr5 hat5)
               have hB5 : Below w.heap.size w w5 := ((hBW9.trans (hb10.mono hBW9.size)).alloc (Nat.le_trans hBW9.size hb10.size) _).grown hgr5 (by have := hBW9.size; have := hb10.size; simp; omega) (fun g e => (hrl g e).1)
               clear hown5 hgr5 hat5))
            | fail)
          go_roundw
          case rel => exact ⟨_, _, _, _, by go_num, by go_num, hB5, hnI⟩
          case measure => simp [intOf]; omega
    · obtain rfl : i = la.length := by omega
      obtain rfl : j = lb.length := by omega
      have hlt1 : decide (la.length < la.length) = false := decide_eq_false (Nat.lt_irrefl _)
      go_wp2
      go_ret2
      refine ⟨_, l, rfl, ?_, hBr⟩
      have := H.out.eq
      rw [List.drop_length, List.drop_length, mrg, List.filter_nil, List.append_nil] at this
      rw [← this]
      exact H.out.row
end Go.Proofs.Ytfkefogmpmcfeaa
