/- The document's own answer: Move. -/
import Derived.Test.YtfkefogmpmcfeaaU4
import Derived.Test.YtfkefogmpmcfeaaE3
import Derived.Deep.DeepCutAuto
namespace Go.Proofs.Ytfkefogmpmcfeaa
open Go.RowKit Go.Shelf
set_option maxRecDepth 100000

theorem renL_unit (g : Int → Int) : ∀ xs : List Tm, renL (fun (s : Unit) v => (s, g v)) () xs = ((), xs.map fun t => (renT (fun (s : Unit) v => (s, g v)) () t).2)
  | [] => by simp only [renL, List.map_nil]
  | t :: ts => by simp only [renL, renL_unit g ts, List.map_cons]
def movF (b f : Int) : Int := if f < 0 then -1 - movI b (-1 - f) else f
theorem movT_eq (b f : Int) (xs : List Tm) : movT b (.node f xs) = .node (movF b f) (xs.map (movT b)) := by
  unfold movT
  simp only [renT]
  rw [renL_unit]
  unfold renF movF
  split <;> rfl
theorem movT_len (b : Int) (t : Tm) : (movT b t).args.length = t.args.length := by
  obtain ⟨f, xs⟩ := t
  rw [movT_eq]
  simp [Tm.args]
theorem movF_i64 {b f : Int} (hb : I64 b) (hf : I64 f) : I64 (movF b f) := by
  have h1 := hf.1
  unfold movF
  split
  · have := movI_i64 (v := -1 - f) hb (by omega) (by omega)
    exact ⟨by have := this.2; omega, by have := this.1; omega⟩
  · exact hf
theorem movT_i64 {b : Int} {t : Tm} (hb : I64 b) (hf : I64 t.fn) : I64 (movT b t).fn := by
  obtain ⟨f, xs⟩ := t
  rw [movT_eq]
  exact movF_i64 hb hf

/-- Can the number be moved, as the document says? -/
def toB (v b : Int) : Prop := (0 ≤ b ∧ b ≤ 2147483647 ∧ v ≤ 2147483647 - b) ∨ (b < 0 ∧ 0 ≤ v + b ∧ v + b ≤ 2147483647)
theorem to_yes (v b : Int) (w : World) (h0 : 0 ≤ v) (h1 : v ≤ 9223372036854775807) (hb : I64 b) (h : toB v b) :
    Calls Try.prog 73 #[.int .i64 v, .int .i64 b] w fun e w' => e = .returned (.tuple #[.int .i64 (v + b), .bool true]) ∧ w' = w := by
  have hlo := hb.1
  have hhi := hb.2
  rcases h with ⟨p1, p2, p3⟩ | ⟨p1, p2, p3⟩
  · have q1 : b ≥ 0 := p1
    have q2 : ¬ b > 2147483647 := by omega
    have q3 : ¬ v > 2147483647 - b := by omega
    go_enter Try.func73, Try.ntmps73
    go_wp2
    go_ret2
    exact ⟨rfl, rfl⟩
  · have q1 : ¬ b ≥ 0 := by omega
    have q2 : v + b ≥ 0 := p2
    go_enter Try.func73, Try.ntmps73
    go_wp2
    go_ret2
    exact ⟨by simp, rfl⟩
theorem to_no (v b : Int) (w : World) (h0 : 0 ≤ v) (h1 : v ≤ 9223372036854775807) (hb : I64 b) (h : ¬ toB v b) :
    Calls Try.prog 73 #[.int .i64 v, .int .i64 b] w fun e w' => (∃ n, e = .returned (.tuple #[.int .i64 n, .bool false])) ∧ w' = w := by
  have hlo := hb.1
  have hhi := hb.2
  unfold toB at h
  by_cases hp : 0 ≤ b
  · have q1 : b ≥ 0 := hp
    by_cases hq : b > 2147483647
    · go_enter Try.func73, Try.ntmps73
      go_wp2
      go_ret2
      exact ⟨⟨0, rfl⟩, rfl⟩
    · have q3 : v > 2147483647 - b := by omega
      go_enter Try.func73, Try.ntmps73
      go_wp2
      go_ret2
      exact ⟨⟨0, rfl⟩, rfl⟩
  · have q1 : ¬ b ≥ 0 := hp
    by_cases hq : v + b ≥ 0
    · have q3 : ¬ v + b ≤ 2147483647 := by omega
      go_enter Try.func73, Try.ntmps73
      go_wp2
      go_ret2
      exact ⟨⟨v + b, by simp⟩, rfl⟩
    · go_enter Try.func73, Try.ntmps73
      go_wp2
      go_ret2
      exact ⟨⟨v + b, rfl⟩, rfl⟩
theorem movI_yes {v b : Int} (h0 : 0 ≤ v) (h : toB v b) : movI b v = v + b := by
  unfold movI
  rcases h with h | h
  · by_cases e : b = 0
    · subst e; simp
    · rw [if_pos (by omega)]
  · rw [if_pos (by omega)]
theorem movI_no {v b : Int} (h0 : 0 ≤ v) (h : ¬ toB v b) : movI b v = v := by
  unfold toB at h
  unfold movI
  rw [if_neg (by omega)]

def RMoveAt (b : Int) (t : Tm) : Prop := t.size ≤ 4398046511104 → ∀ (A : Option Addr) (c : Nat) (w : World), I64 t.fn → Args w w.heap.size A t.args → Calls Try.prog 33 #[.agg #[.int .i64 t.fn, .slice A t.args.length c], .int .i64 b] w (RCopyPost (movT b t) w)

set_option maxHeartbeats 4000000 in
theorem refMove_any (b : Int) (hb64 : I64 b) (t : Tm) : RMoveAt b t := by
  refine Tm.ind (P := RMoveAt b) (fun f xs ih => ?_) t
  intro hsz A c w hf hA
  simp only [Tm.fn, Tm.args] at hf hA ⊢
  have hlen : xs.length ≤ 4398046511104 := by have := sizes_len xs; simp only [Tm.size] at hsz; omega
  obtain ⟨i0, hi, hz0, hz1, hz2⟩ := info_parts info_term
  obtain ⟨q0, q1, q2⟩ := heap3 w (.cells #[.int .i64 f, .slice A xs.length c] 31) (.cells #[.int .i64 0, .slice none 0 0] 31) (.cells #[.int .i64 f, .slice none 0 0] 31)
  obtain ⟨W, hW⟩ : ∃ W, (((w.alloc (.cells #[.int .i64 f, .slice A xs.length c] 31)).alloc (.cells #[.int .i64 0, .slice none 0 0] 31)).alloc (.cells #[.int .i64 f, .slice none 0 0] 31)) = W := ⟨_, rfl⟩
  have hB0 : Below w.heap.size w W := by rw [← hW]; exact (((Below.refl _ _).alloc (Nat.le_refl _) _).alloc (by simp) _).alloc (by simp; omega) _
  rw [hW] at q0 q1 q2
  have hWs0 : w.heap.size + 2 < W.heap.size := (Array.getElem?_eq_some_iff.1 q2).1
  have HW := Lib.hid hW
  have HA := Lib.hid hA
  have hlo := hf.1
  have hmv := Lib.hid (movT_eq b f xs)
  obtain ⟨x0, x1, _, _⟩ := cells_two q0
  obtain ⟨o0, o1, of0, of1⟩ := cells_two q2
  clear hW hA
  have hstart : (f < 0 ∧ toB (-1 - f) b ∧ movF b f = -1 - (-1 - f + b)) ∨ (f < 0 ∧ ¬ toB (-1 - f) b ∧ movF b f = f) ∨ (¬ f < 0 ∧ movF b f = f) := by
    unfold movF
    by_cases h : f < 0
    · by_cases h2 : toB (-1 - f) b
      · exact .inl ⟨h, h2, by rw [if_pos h, movI_yes (by omega) h2]⟩
      · exact .inr (.inl ⟨h, h2, by rw [if_pos h, movI_no (by omega) h2]; omega⟩)
    · exact .inr (.inr ⟨h, by rw [if_neg h]⟩)
  -- behind the head, whatever it does, the box holds the number moved
  obtain ⟨f', hf'⟩ : ∃ f', movF b f = f' := ⟨_, rfl⟩
  rw [hf'] at hstart hmv
  have hf64 : I64 f' := by rw [← hf']; exact movF_i64 hb64 hf
  go_enter Try.func33, Try.ntmps33
  go_upto_region 2 with fail
  rw [HW.out]
  go_upto_if 14 with fail
  go_cut [6, 7] (fun s6 s7 wx => Below (w.heap.size + 2) W wx ∧ wx.heap[w.heap.size + 2]? = some (.cells #[.int .i64 f', .slice none 0 0] 31))
  case first =>
    rcases hstart with ⟨h1, h2, h3⟩ | ⟨h1, h2, h3⟩ | ⟨h1, h3⟩
    · have hto := Lib.hid (to_yes (-1 - f) b W (by omega) (by omega) hb64 h2)
      have hr1 : -1 - (-1 - f + b) ≤ 9223372036854775807 ∧ -9223372036854775808 ≤ -1 - (-1 - f + b) ∧ -1 - f + b ≤ 9223372036854775807 ∧ -9223372036854775808 ≤ -1 - f + b := by
        have := hb64.1; have := hb64.2
        rcases h2 with h2 | h2
        · omega
        · omega
      obtain ⟨hr1, hr2, hr3, hr4⟩ := hr1
      have H3 := Lib.hid h3
      clear h2 h3
      go_wp2_with (first
        | (go_at_call 73; refine hto.out.mono ?_; go_must (rintro e w1 ⟨rfl, hw1⟩; obtain rfl := hw1.symm))
        | fail)
      go_meet
      refine ⟨(Below.refl (w.heap.size + 2) W).setCell (p := ⟨w.heap.size + 1 + 1, 0, none⟩) (by show _ ≤ w.heap.size + 1 + 1; omega) _, ?_⟩
      rw [H3.out]
      exact (set2_two (v := .slice none 0 0) q2).1
    · have hto := Lib.hid (to_no (-1 - f) b W (by omega) (by omega) hb64 h2)
      have H3 := Lib.hid h3
      clear h2 h3
      go_wp2_with (first
        | (go_at_call 73; refine hto.out.mono ?_; go_must (rintro e w1 ⟨⟨n, rfl⟩, hw1⟩; obtain rfl := hw1.symm))
        | fail)
      go_meet
      exact ⟨Below.refl _ _, by rw [H3.out]; exact q2⟩
    · have H3 := Lib.hid h3
      clear h3
      go_wp2
      go_meet
      exact ⟨Below.refl _ _, by rw [H3.out]; exact q2⟩
  case rest =>
    obtain ⟨hBc, hbc⟩ := hcut
    have HI0 : Hid (RCopyI w _ f' (xs.map (movT b)) 0 (.slice none 0 0) []) := ⟨hbc, by simp, RowT.nil_ _ _ _⟩
    have hWs := hWs0
    have hB := hB0
    clear x0 x1 o0 o1 of0 of1
    go_wp2
    go_loopw [8] (fun i wr => ∃ (k : Nat) (v : Value) (l : List Ti), k ≤ xs.length ∧ i = .int .i64 (k : Int) ∧ Below (w.heap.size + 2) W wr ∧ Hid (RCopyI w wr f' (xs.map (movT b)) k v l)) (fun i _ => xs.length - (intOf i).toNat)
    case atStart => exact ⟨0, _, [], Nat.zero_le _, rfl, hBc, HI0⟩
    case round =>
      obtain ⟨k, v, l, hk, rfl, hBr, H⟩ := hrel
      have hbx := H.out.box
      have hbs : w.heap.size + 2 < wr.heap.size := (Array.getElem?_eq_some_iff.1 hbx).1
      obtain ⟨a0, a1, _, _⟩ := cells_two ((hBr.block _ (by omega)).trans q0)
      obtain ⟨c0, c1, g0, g1⟩ := cells_two hbx
      have hBw : Below w.heap.size w wr := hB.trans (hBr.mono (by omega))
      by_cases hlt : k < xs.length
      · obtain ⟨u, hu⟩ : ∃ u, xs[k]? = some u := ⟨_, List.getElem?_eq_getElem hlt⟩
        obtain ⟨bb, off, A1, c1', rfl, ha⟩ := HA.out.get hu
        have hbw := ha.hb
        have e0 := cell_on hBw hbw ha.c0
        have e1 := cell_on hBw hbw ha.c1
        have hbb : bb < wr.heap.size := by omega
        have hs1 : Hid (Args wr.drew wr.drew.heap.size A1 u.args) := (ha.sub.on hBw).drewN 1
        have hi64 := ha.hi
        have hmem := List.mem_of_getElem? hu
        have hszt : u.size ≤ 4398046511104 := by have := size_mem hmem; simp only [Tm.size] at hsz; omega
        have hul : (movT b u).args.length ≤ 9223372036854775807 := by rw [movT_len]; exact ha.sub.len
        have hm64 : I64 (movT b u).fn := movT_i64 hb64 ha.hi
        have Hu := Lib.hid (show (xs.map (movT b))[k]? = some (movT b u) by rw [List.getElem?_map, hu]; rfl)
        obtain ⟨um, hum⟩ : ∃ um, movT b u = um := ⟨_, rfl⟩
        have hrow := H.out.row.row
        have hll := H.out.len (by rw [List.length_map]; exact hk)
        rw [hll] at hrow
        obtain ⟨Av, cv, hv⟩ := row_own hrow
        subst hv
        have hrl := row_lt hrow
        have Hrow := Lib.hid hrow
        have hSS : ∀ w', Below wr.heap.size wr w' → w'.cell? ⟨w.heap.size + 2, 1, none⟩ = some (.slice Av k cv) ∧ w'.cell? ⟨w.heap.size, 1, none⟩ = some (.slice (some ⟨bb, off, none⟩) xs.length c) ∧ w'.cell? ⟨bb, off + k * 2, none⟩ = some (.int .i64 u.fn) ∧ w'.cell? ⟨bb, off + k * 2 + 1, none⟩ = some (.slice A1 u.args.length c1') := fun w' h => ⟨cell_on h hbs c1, cell_on h (by omega) a1, cell_on h hbb e0, cell_on h hbb e1⟩
        have hne : ∀ g, g < w.heap.size + 3 → (Value.slice Av k cv).ownBlock ≠ some g := fun g h e => by have := (hrl g e).1; omega
        have hBX : ∀ w' : World, (∀ g, g < wr.heap.size → (Value.slice Av k cv).ownBlock ≠ some g → w'.heap[g]? = wr.heap[g]?) → w'.cell? ⟨w.heap.size + 2, 1, none⟩ = some (.slice Av k cv) ∧ w'.frozen? ⟨w.heap.size + 2, 1, none⟩ = false := fun w' h => ⟨(cell_of_heap (h _ hbs (hne _ (by omega)))).trans c1, (frozen_of_heap (h _ hbs (hne _ (by omega)))).trans g1⟩
        rw [hum] at hul hm64 Hu
        clear hu ha hrow
        go_wp2
        go_region_law
          (first
            | (go_simp
               go_at_call 33
               refine (ih u hmem hszt A1 c1' wr.drew hi64 hs1.out).mono ?_
               rintro e w4 ⟨v4, l4, rfl, hl4, hR4, hb4⟩
               rw [hum] at hl4 ⊢
               have hB4 : Below wr.heap.size wr w4 := ⟨hb4.os, hb4.tape, hb4.output, hb4.size, hb4.block⟩
               obtain ⟨A4, c4, hv4⟩ := row_own hR4.row
               have hl4l : l4.length = um.args.length := by rw [← hl4, List.length_map]
               rw [hl4l] at hv4
               have HR4 := Lib.hid hR4
               obtain ⟨k4, _, _, _⟩ := hSS _ hB4
               obtain ⟨k4', _, _, _⟩ := hSS _ (hB4.alloc hB4.size (.cells #[.int .i64 um.fn, .slice A4 um.args.length c4] 31))
               subst hv4
               clear hR4
               dsimp only)
            | (refine step_append_at rfl (.tmp 35) (.tmp 43) 29 rfl (w.heap.size + 3) 31 i0 (.agg #[.int .i64 0, .slice none 0 0]) 2 32 Try.underlying29 hi hz0 hz1 hz2 rfl (by decide) (.slice Av k cv) k _ (by simp [Act.eval]) (row_keep Hrow.out fun g e => (Below.heap_alloc w4 _ g (Nat.lt_of_lt_of_le (hrl g e).2 hB4.size)).trans (hB4.block g (hrl g e).2)) ⟨w4.heap.size, 0, none⟩ 1 1 [.int .i64 um.fn, .slice A4 um.args.length c4] (by simp [Act.eval]) rfl (cells_new_two _ _ _ _) (by simp [Value.oneCell']) (by unfold maxLen; omega) (by omega) (by have := hB4.size; simp; omega) ?_
               intro v5 w5 hown5 hgr5 hat5
               have hK5 : ∀ g, g < wr.heap.size → (Value.slice Av k cv).ownBlock ≠ some g → w5.heap[g]? = wr.heap[g]? := fun g h1 h2 => (hgr5.block g (by have := hB4.size; simp; omega) (fun e => h2 e.symm)).trans ((Below.heap_alloc w4 _ g (by have := hB4.size; omega)).trans (hB4.block g h1))
               obtain ⟨k1, kf⟩ := hBX w5 hK5
               obtain ⟨g5, cap5, hv5⟩ := ownsRow_succ hown5
               have Hown5 := Lib.hid hown5
               have Hgr5 := Lib.hid hgr5
               have Hat5 := Lib.hid hat5
               subst hv5
               clear hown5 hgr5 hat5 hK5)
            | fail)
        all_goals
          have hst := H.out.next Hu.out hm64 hl4 hul rfl HR4.out hB4 Hown5.out Hgr5.out Hat5.out
          have hBe : Below (w.heap.size + 2) W w5 := ((hBr.trans (hB4.mono (by omega))).alloc (by have := hB4.size; omega) _).grown Hgr5.out (by have := hB4.size; simp; omega) (fun g e => by have := (hrl g e).1; omega)
          go_wp2
          go_roundw
          case rel => exact ⟨k + 1, _, _, by omega, by go_num, hBe.setCell (Nat.le_refl _) _, hst⟩
          case measure => simp [intOf]; omega
      · obtain rfl : k = xs.length := by omega
        have hrow := H.out.row.row
        have hll := H.out.len (by rw [List.length_map]; exact hk)
        rw [hll] at hrow
        obtain ⟨Av, cv, hv⟩ := row_own hrow
        subst hv
        have hkey := Lib.hid H.out.key
        have HR := Lib.hid H.out.row
        obtain ⟨b0, b1, bg0, bg1⟩ := cells_two ((hBr.block _ (by omega)).trans q1)
        clear hrow
        go_wp2
        have z1 : (wr.setCell ⟨w.heap.size + 1, 0, none⟩ (.int .i64 f')).heap[w.heap.size + 1]? = some (.cells #[.int .i64 f', .slice none 0 0] 31) := heap_setCell_same wr _ 0 _ _ _ ((hBr.block _ (by omega)).trans q1)
        have z2 : ((wr.setCell ⟨w.heap.size + 1, 0, none⟩ (.int .i64 f')).setCell ⟨w.heap.size + 1, 1, none⟩ (.slice Av xs.length cv)).heap[w.heap.size + 1]? = some (.cells #[.int .i64 f', .slice Av xs.length cv] 31) := heap_setCell_same _ _ 1 _ _ _ z1
        have p0 := (cells_two z1).1
        have p1 := (cells_two z2).2.1
        have hoth : ∀ g, g ≠ w.heap.size + 1 → ((wr.setCell ⟨w.heap.size + 1, 0, none⟩ (.int .i64 f')).setCell ⟨w.heap.size + 1, 1, none⟩ (.slice Av xs.length cv)).heap[g]? = wr.heap[g]? := fun g e => (heap_setCell_other _ _ _ _ e).trans (heap_setCell_other _ _ _ _ e)
        refine bodyPost_ret (v := .agg #[.int .i64 f', .slice Av xs.length cv]) (by simp [results, Try.results33, go_sem, p0, p1]) rfl ⟨_, l, by rw [hmv.out]; rfl, by rw [hkey.out, hmv.out, ← List.length_map (f := movT b), List.take_length]; rfl, ?_, ?_⟩
        · have hk3 := (HR.out.keep (fun g e => hoth g (by have := (row_lt HR.out.row g e).1; omega)) (fun g e => hoth g (by have := e.1; omega))).base (base' := w.heap.size) (by omega)
          exact hk3.wide fun g e => show Apart _ _ _ g from ⟨by have := e.1; omega, by have := e.2.1; simpa using this, e.2.2⟩
        · exact (hBw.setCell (by show _ ≤ w.heap.size + 1; omega) _).setCell (by show _ ≤ w.heap.size + 1; omega) _
end Go.Proofs.Ytfkefogmpmcfeaa
