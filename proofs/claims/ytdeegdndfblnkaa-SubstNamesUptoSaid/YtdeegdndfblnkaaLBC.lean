/- A substitution that is an argument, opened. A clause that is an argument, opened. -/
import Derived.Test.YtdeegdndfblnkaaLT
import Derived.Test.YtdeegdndfblnkaaUFA
import Derived.Test.YtdeegdndfblnkaaL2
import Derived.ChangeSlices
import Derived.Test.YtdeegdndfblnkaaYA4
namespace Go.Proofs.Ytdeegdndfblnkaa
open Go.ChangeShapes Go.WideShapes Go.ChangeAt Go.RowKit
set_option maxRecDepth 20000

section
variable {H : Type} {enc : TypeId × Value → H} {W : World} {base : Nat} {held : Bool}
theorem cellsBind : Try.prog.cellsOf 77 = 3 := by kernel_rfl

theorem trod_bind (n : Nat) (cs : List Value) (x : DataW H × List MemPlace) (h : DataW.trod enc Try.prog W base (fun _ => true) held n 77 cs = some x) :
    ∃ (b : Bd) (A : Option Addr) (c : Nat), cs = [.int .i64 b.v, .int .i64 b.t.fn, .slice A b.t.args.length c] ∧ I64 b.v ∧ I64 b.t.fn ∧ Args W W.heap.size A b.t.args ∧ b.t.size ≤ Rows.uptoBulk x.1 := by
  obtain ⟨xs, n', rfl, hx, hlen, hxs, hf⟩ := DataW.trod_struct Try.underlying77 h
  rw [cellsBind] at hlen
  match cs, hlen with
  | [c0, c1, c2], _ =>
    have hx2 : xs.length = 2 := by rw [hxs]; rfl
    match xs, hx2 with
    | [x0, x1], _ =>
      have g0 := hf 0 _ rfl
      have g1 := hf 1 _ rfl
      simp [cellsInt] at g0
      simp [cellsTerm] at g1
      obtain ⟨f, hfv, ef, hw⟩ := DataW.trod_int Try.underlying3 g0
      injection hfv with hfv
      subst hfv
      have hf64 : I64 f := by
        have := hw
        simp [Lit.wf, IntKind.min, IntKind.max, IntKind.signed, IntKind.bits] at this
        exact this
      obtain ⟨t, A, c, hcs, ht64, hA, hb⟩ := trod_term _ _ _ g1
      injection hcs with e1 hcs
      injection hcs with e2 _
      subst e1; subst e2
      refine ⟨⟨f, t⟩, A, c, rfl, hf64, ht64, hA, ?_⟩
      subst hx
      simp only [ef, List.map_cons, List.map_nil, Rows.uptoBulk, Rows.uptoBulkAll]
      omega

theorem bulk_mem : ∀ {ds : List (DataW H)} {d : DataW H}, d ∈ ds → Rows.uptoBulk d ≤ Rows.uptoBulkAll ds
  | [], _, h => by simp at h
  | d' :: ds, d, h => by
    simp only [Rows.uptoBulkAll]
    rcases List.mem_cons.1 h with rfl | h
    · omega
    · have := bulk_mem h; omega

theorem open_subst {r : Reach} {b0 : Nat} {v : Value} {d : DataW H} {ps : List MemPlace} (hv : Value.okWide Try.prog W r b0 23 v) (h : DataW.Trod enc Try.prog W base (fun _ => true) held 23 v d ps) :
    ∃ (l : List Bd) (A : Option Addr) (c : Nat), v = .slice A l.length c ∧ Binds W (· < W.heap.size) A l ∧ ∀ x ∈ l, x.t.size ≤ Rows.uptoBulk d := by
  obtain ⟨a0, len0, cap0, rfl⟩ := okWide_slice Try.underlying23 hv
  obtain ⟨fuel, hf⟩ := h
  have hf' : DataW.trod enc Try.prog W base (fun _ => true) held fuel 23 [.slice a0 len0 cap0] = some (d, ps) := hf
  rcases DataW.trod_slice Try.underlying23 hf' with ⟨hv, e1⟩ | ⟨a, len, cap, elems, rest, m, hm, hv, e1, _, hl, hmax, hlenE, hel, _, _⟩
  · injection hv with hv
    injection hv with e2 e3 e4
    subst e2; subst e3; subst e4
    exact ⟨[], none, 0, rfl, Binds.nil_ _ _ _, by simp⟩
  · injection hv with hv
    injection hv with e2 e3 e4
    subst e2; subst e3; subst e4
    have each : ∀ i, i < len0 → ∃ q : Bd × Option Addr × Nat × DataW H, I64 q.1.v ∧ I64 q.1.t.fn ∧ W.cell? (a.add (i * 3)) = some (.int .i64 q.1.v) ∧ W.cell? ((a.add (i * 3)).add 1) = some (.int .i64 q.1.t.fn) ∧ W.cell? ((a.add (i * 3)).add 2) = some (.slice q.2.1 q.1.t.args.length q.2.2.1) ∧ Args W W.heap.size q.2.1 q.1.t.args ∧ q.1.t.size ≤ Rows.uptoBulk q.2.2.2 ∧ q.2.2.2 ∈ elems.map (·.1) := by
      intro i hi
      have h1 := hel i hi
      rw [cellsBind] at h1
      rw [List.getElem?_eq_getElem (by omega)] at h1
      cases hc : W.cells? base (a.add (i * 3)) 3 with
      | none => rw [hc] at h1; cases h1
      | some cs' =>
        rw [hc] at h1
        simp only [Option.bind_some] at h1
        obtain ⟨b, A, c, rfl, hb64, ht64, hA, hb⟩ := trod_bind _ cs' _ h1
        obtain ⟨_, _, hat⟩ := World.cells?_some hc
        refine ⟨(b, A, c, (elems[i]'(by omega)).1), hb64, ht64, ?_, hat 1 (by omega), hat 2 (by omega), hA, hb, List.mem_map.2 ⟨_, List.getElem_mem _, rfl⟩⟩
        have := hat 0 (by omega)
        simpa [Addr.add] using this
    haveI : Inhabited (Bd × Option Addr × Nat × DataW H) := ⟨(⟨0, .node 0 []⟩, none, 0, .nil)⟩
    obtain ⟨q, hq⟩ := Go.Deep.choose_lt each
    have hget : ∀ (i : Nat) (t : Bd), ((List.range len0).map fun i => (q i).1)[i]? = some t → i < len0 ∧ t = (q i).1 := by
      intro i t e
      have hi : i < len0 := by have := (List.getElem?_eq_some_iff.1 e).1; simpa using this
      rw [List.getElem?_map, List.getElem?_range hi] at e
      simp at e
      exact ⟨hi, e.symm⟩
    refine ⟨(List.range len0).map fun i => (q i).1, some a, cap0, by simp, ?_, ?_⟩
    · rcases Nat.eq_zero_or_pos len0 with h0 | h0
      · subst h0; exact Binds.nil_ _ _ _
      · have c00 := (hq 0 h0).2.2.1
        simp only [Nat.zero_mul, Addr.add, if_true] at c00
        obtain ⟨blk, off, spot⟩ := a
        obtain rfl : spot = none := cell_spot c00
        have hblk : blk < W.heap.size := World.block_lt_of_cell? W _ c00
        refine ⟨by unfold maxLen at hmax; simp; omega, fun _ => ⟨blk, off, rfl, hblk, fun i t e => ?_⟩⟩
        obtain ⟨hi, rfl⟩ := hget i t e
        obtain ⟨h1, h2, h3, h4, h5, h6, _⟩ := hq i hi
        rw [Addr.add_lit] at h3
        rw [Addr.add_lit, Addr.add_lit] at h4 h5
        exact ⟨(q i).2.1, (q i).2.2.1, h3, h4, h5, h1, h2, h6.toN⟩
    · intro x hx
      obtain ⟨i, hi, rfl⟩ := List.mem_map.1 hx
      have hi' : i < len0 := by simpa using hi
      obtain ⟨_, _, _, _, _, _, h7, h8⟩ := hq i hi'
      have h9 := bulk_mem h8
      have e5 := congrArg (fun z => Rows.uptoBulk z.1) e1
      simp only [Rows.uptoBulk] at e5
      show (q i).1.t.size ≤ _
      omega
end

end Go.Proofs.Ytdeegdndfblnkaa

namespace Go.Proofs.Ytdeegdndfblnkaa
open Go.ChangeShapes Go.WideShapes Go.ChangeAt Go.RowKit
set_option maxRecDepth 20000

section
variable {H : Type} {enc : TypeId × Value → H} {W : World} {base : Nat} {held : Bool}
theorem cellsLit : Try.prog.cellsOf 33 = 5 := by kernel_rfl
theorem cellsBool1 : Try.prog.cellsOf 4 = 1 := by kernel_rfl

theorem trod_lit (n : Nat) (cs : List Value) (x : DataW H × List MemPlace) (h : DataW.trod enc Try.prog W base (fun _ => true) held n 33 cs = some x) :
    ∃ (y : Lt) (A1 : Option Addr) (c1 : Nat) (A2 : Option Addr) (c2 : Nat), cs = [.bool y.neg, .int .i64 y.l.fn, .slice A1 y.l.args.length c1, .int .i64 y.r.fn, .slice A2 y.r.args.length c2] ∧ I64 y.l.fn ∧ I64 y.r.fn ∧ Args W W.heap.size A1 y.l.args ∧ Args W W.heap.size A2 y.r.args ∧ y.l.size + y.r.size ≤ Rows.uptoBulk x.1 := by
  obtain ⟨xs, n', rfl, hx, hlen, hxs, hf⟩ := DataW.trod_struct Try.underlying33 h
  rw [cellsLit] at hlen
  match cs, hlen with
  | [c0, c1, c2, c3, c4], _ =>
    have hx2 : xs.length = 3 := by rw [hxs]; rfl
    match xs, hx2 with
    | [x0, x1, x2], _ =>
      have g0 := hf 0 _ rfl
      have g1 := hf 1 _ rfl
      have g2 := hf 2 _ rfl
      simp [cellsBool1] at g0
      simp [cellsTerm] at g1
      simp [cellsTerm] at g2
      obtain ⟨b, hbv, eb⟩ := DataW.trod_bool Try.underlying4 g0
      injection hbv with hbv
      subst hbv
      obtain ⟨t, A, c, hcs, ht64, hA, hb⟩ := trod_term _ _ _ g1
      injection hcs with e1 hcs
      injection hcs with e2 _
      subst e1; subst e2
      obtain ⟨t2, A2, c2, hcs2, ht642, hA2, hb2⟩ := trod_term _ _ _ g2
      injection hcs2 with e3 hcs2
      injection hcs2 with e4 _
      subst e3; subst e4
      refine ⟨⟨b, t, t2⟩, A, c, A2, c2, rfl, ht64, ht642, hA, hA2, ?_⟩
      subst hx
      simp only [List.map_cons, List.map_nil, Rows.uptoBulk, Rows.uptoBulkAll]
      omega

theorem open_clause {r : Reach} {b0 : Nat} {v : Value} {d : DataW H} {ps : List MemPlace} (hv : Value.okWide Try.prog W r b0 25 v) (h : DataW.Trod enc Try.prog W base (fun _ => true) held 25 v d ps) :
    ∃ (l : List Lt) (A : Option Addr) (c : Nat), v = .slice A l.length c ∧ Lits W (· < W.heap.size) A l ∧ ∀ x ∈ l, x.l.size + x.r.size ≤ Rows.uptoBulk d := by
  obtain ⟨a0, len0, cap0, rfl⟩ := okWide_slice Try.underlying25 hv
  obtain ⟨fuel, hf⟩ := h
  have hf' : DataW.trod enc Try.prog W base (fun _ => true) held fuel 25 [.slice a0 len0 cap0] = some (d, ps) := hf
  rcases DataW.trod_slice Try.underlying25 hf' with ⟨hv, e1⟩ | ⟨a, len, cap, elems, rest, m, hm, hv, e1, _, hl, hmax, hlenE, hel, _, _⟩
  · injection hv with hv
    injection hv with e2 e3 e4
    subst e2; subst e3; subst e4
    exact ⟨[], none, 0, rfl, Lits.nil_ _ _ _, by simp⟩
  · injection hv with hv
    injection hv with e2 e3 e4
    subst e2; subst e3; subst e4
    have each : ∀ i, i < len0 → ∃ q : Lt × (Option Addr × Nat) × (Option Addr × Nat) × DataW H, I64 q.1.l.fn ∧ I64 q.1.r.fn ∧ W.cell? (a.add (i * 5)) = some (.bool q.1.neg) ∧ W.cell? ((a.add (i * 5)).add 1) = some (.int .i64 q.1.l.fn) ∧ W.cell? ((a.add (i * 5)).add 2) = some (.slice q.2.1.1 q.1.l.args.length q.2.1.2) ∧ W.cell? ((a.add (i * 5)).add 3) = some (.int .i64 q.1.r.fn) ∧ W.cell? ((a.add (i * 5)).add 4) = some (.slice q.2.2.1.1 q.1.r.args.length q.2.2.1.2) ∧ Args W W.heap.size q.2.1.1 q.1.l.args ∧ Args W W.heap.size q.2.2.1.1 q.1.r.args ∧ q.1.l.size + q.1.r.size ≤ Rows.uptoBulk q.2.2.2 ∧ q.2.2.2 ∈ elems.map (·.1) := by
      intro i hi
      have h1 := hel i hi
      rw [cellsLit] at h1
      rw [List.getElem?_eq_getElem (by omega)] at h1
      cases hc : W.cells? base (a.add (i * 5)) 5 with
      | none => rw [hc] at h1; cases h1
      | some cs' =>
        rw [hc] at h1
        simp only [Option.bind_some] at h1
        obtain ⟨y, A1, c1, A2, c2, rfl, h64, h64', hA1, hA2, hb⟩ := trod_lit _ cs' _ h1
        obtain ⟨_, _, hat⟩ := World.cells?_some hc
        refine ⟨(y, (A1, c1), (A2, c2), (elems[i]'(by omega)).1), h64, h64', ?_, hat 1 (by omega), hat 2 (by omega), hat 3 (by omega), hat 4 (by omega), hA1, hA2, hb, List.mem_map.2 ⟨_, List.getElem_mem _, rfl⟩⟩
        have := hat 0 (by omega)
        simpa [Addr.add] using this
    haveI : Inhabited (Lt × (Option Addr × Nat) × (Option Addr × Nat) × DataW H) := ⟨(⟨false, .node 0 [], .node 0 []⟩, (none, 0), (none, 0), .nil)⟩
    obtain ⟨q, hq⟩ := Go.Deep.choose_lt each
    have hget : ∀ (i : Nat) (t : Lt), ((List.range len0).map fun i => (q i).1)[i]? = some t → i < len0 ∧ t = (q i).1 := by
      intro i t e
      have hi : i < len0 := by have := (List.getElem?_eq_some_iff.1 e).1; simpa using this
      rw [List.getElem?_map, List.getElem?_range hi] at e
      simp at e
      exact ⟨hi, e.symm⟩
    refine ⟨(List.range len0).map fun i => (q i).1, some a, cap0, by simp, ?_, ?_⟩
    · rcases Nat.eq_zero_or_pos len0 with h0 | h0
      · subst h0; exact Lits.nil_ _ _ _
      · have c00 := (hq 0 h0).2.2.1
        simp only [Nat.zero_mul, Addr.add, if_true] at c00
        obtain ⟨blk, off, spot⟩ := a
        obtain rfl : spot = none := cell_spot c00
        have hblk : blk < W.heap.size := World.block_lt_of_cell? W _ c00
        refine ⟨by unfold maxLen at hmax; simp; omega, fun _ => ⟨blk, off, rfl, hblk, fun i t e => ?_⟩⟩
        obtain ⟨hi, rfl⟩ := hget i t e
        obtain ⟨h1, h2, h3, h4, h5, h6, h7, h8, h9, _⟩ := hq i hi
        rw [Addr.add_lit] at h3
        rw [Addr.add_lit, Addr.add_lit] at h4 h5 h6 h7
        exact ⟨(q i).2.1.1, (q i).2.1.2, (q i).2.2.1.1, (q i).2.2.1.2, h3, h4, h5, h6, h7, h1, h2, h8.toN, h9.toN⟩
    · intro x hx
      obtain ⟨i, hi, rfl⟩ := List.mem_map.1 hx
      have hi' : i < len0 := by simpa using hi
      obtain ⟨_, _, _, _, _, _, _, _, _, h7, h8⟩ := hq i hi'
      have h9 := bulk_mem h8
      have e5 := congrArg (fun z => Rows.uptoBulk z.1) e1
      simp only [Rows.uptoBulk] at e5
      show (q i).1.l.size + (q i).1.r.size ≤ _
      omega
end

end Go.Proofs.Ytdeegdndfblnkaa
