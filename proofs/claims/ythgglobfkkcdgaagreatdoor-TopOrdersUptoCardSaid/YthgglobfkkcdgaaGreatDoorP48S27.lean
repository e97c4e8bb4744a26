import Derived.Test.YthgglobfkkcdgaaGreatDoorP48S24
import Derived.Test.YthgglobfkkcdgaaGreatDoorP48S2
import Derived.Test.YthgglobfkkcdgaaGreatDoorP48S26
import Derived.ChangeSlices
import Derived.Test.YthgglobfkkcdgaaGreatDoorP48S1
import Derived.Test.YthgglobfkkcdgaaGreatDoorRows
import Derived.ProofKit
import Derived.Below
import Derived.Carry
import Derived.Test.YthgglobfkkcdgaaGreatDoorCards
import Derived.WalkKit
import Derived.OpenShut
import Derived.Deep.DeepHandedRow
import Derived.Lib.LaidTab
import Derived.MakeChecks
namespace Go.Proofs.YthgglobfkkcdgaaGreatDoor
open Go.ChangeShapes Go.WideShapes Go.ChangeAt Go.RowKit
set_option maxRecDepth 20000
section
variable {H : Type} {enc : TypeId × Value → H} {W : World} {base : Nat} {held : Bool}
theorem cellsLitP : Tryz.prog.cellsOf 110 = 5 := by kernel_rfl
theorem cellsClauseP : Tryz.prog.cellsOf 108 = 1 := by kernel_rfl
theorem cellsBoolP : Tryz.prog.cellsOf 4 = 1 := by kernel_rfl
theorem cellsPrecByP : Tryz.prog.cellsOf 26 = 1 := by kernel_rfl
theorem cellsWeightByP : Tryz.prog.cellsOf 27 = 1 := by kernel_rfl
theorem trodP_lit (n : Nat) (cs : List Value) (x : DataW H × List MemPlace) (h : DataW.trod enc Tryz.prog W base (fun _ => true) held n 110 cs = some x) :
    ∃ (y : Lp) (A1 : Option Addr) (c1 : Nat) (A2 : Option Addr) (c2 : Nat), cs = [.bool y.neg, .int .i64 y.l.fn, .slice A1 y.l.args.length c1, .int .i64 y.r.fn, .slice A2 y.r.args.length c2] ∧ I64 y.l.fn ∧ I64 y.r.fn ∧ Args W W.heap.size A1 y.l.args ∧ Args W W.heap.size A2 y.r.args := by
  obtain ⟨xs, n', rfl, hx, hlen, hxs, hf⟩ := DataW.trod_struct Tryz.underlying110 h
  rw [cellsLitP] at hlen
  match cs, hlen with
  | [c0, c1, c2, c3, c4], _ =>
    have hx2 : xs.length = 3 := by rw [hxs]; rfl
    match xs, hx2 with
    | [x0, x1, x2], _ =>
      have g0 := hf 0 _ rfl
      have g1 := hf 1 _ rfl
      have g2 := hf 2 _ rfl
      simp [cellsBoolP] at g0
      simp [cellsTerm] at g1
      simp [cellsTerm] at g2
      obtain ⟨b, hbv, eb⟩ := DataW.trod_bool Tryz.underlying4 g0
      injection hbv with hbv
      subst hbv
      obtain ⟨t, A, c, hcs, ht64, hA, _⟩ := trod_term _ _ _ g1
      injection hcs with e1 hcs
      injection hcs with e2 _
      subst e1; subst e2
      obtain ⟨t2, A2, c2, hcs2, ht642, hA2, _⟩ := trod_term _ _ _ g2
      injection hcs2 with e3 hcs2
      injection hcs2 with e4 _
      subst e3; subst e4
      exact ⟨⟨b, t, t2⟩, A, c, A2, c2, rfl, ht64, ht642, hA, hA2⟩
theorem bulkP_length : ∀ ds : List (DataW H), ds.length ≤ Rows.uptoBulkAll ds := fun ds => bulk_length ds
theorem trodP_clause (n : Nat) (cs : List Value) (x : DataW H × List MemPlace) (h : DataW.trod enc Tryz.prog W base (fun _ => true) held n 108 cs = some x) :
    ∃ (l : List Lp) (A : Option Addr) (c : Nat), cs = [.slice A l.length c] ∧ LpRow W (· < W.heap.size) A l ∧ l.length ≤ Rows.uptoBulk x.1 := by
  rcases DataW.trod_slice Tryz.underlying108 h with ⟨hv, e1⟩ | ⟨a, len0, cap0, elems, rest, m, hm, hv, e1, _, hl, hmax, hlenE, hel, _, _⟩
  · exact ⟨[], none, 0, hv, ⟨by simp, fun h => by simp at h⟩, Nat.zero_le _⟩
  · have hb : len0 ≤ Rows.uptoBulk x.1 := by
      rw [e1]
      have h1 := bulkP_length (elems.map (·.1))
      rw [List.length_map] at h1
      simp only [Rows.uptoBulk]
      omega
    have each : ∀ i, i < len0 → ∃ q : Lp × (Option Addr × Nat) × (Option Addr × Nat), W.cell? (a.add (i * 5)) = some (.bool q.1.neg) ∧ W.cell? ((a.add (i * 5)).add 1) = some (.int .i64 q.1.l.fn) ∧ W.cell? ((a.add (i * 5)).add 2) = some (.slice q.2.1.1 q.1.l.args.length q.2.1.2) ∧ W.cell? ((a.add (i * 5)).add 3) = some (.int .i64 q.1.r.fn) ∧ W.cell? ((a.add (i * 5)).add 4) = some (.slice q.2.2.1 q.1.r.args.length q.2.2.2) ∧ I64 q.1.l.fn ∧ I64 q.1.r.fn ∧ Args W W.heap.size q.2.1.1 q.1.l.args ∧ Args W W.heap.size q.2.2.1 q.1.r.args := by
      intro i hi
      have h1 := hel i hi
      rw [cellsLitP] at h1
      rw [List.getElem?_eq_getElem (by omega)] at h1
      cases hc : W.cells? base (a.add (i * 5)) 5 with
      | none => rw [hc] at h1; cases h1
      | some cs' =>
        rw [hc] at h1
        simp only [Option.bind_some] at h1
        obtain ⟨y, A1, c1, A2, c2, rfl, h64, h64', hA1, hA2⟩ := trodP_lit _ cs' _ h1
        obtain ⟨_, _, hat⟩ := World.cells?_some hc
        refine ⟨(y, (A1, c1), (A2, c2)), ?_, hat 1 (by omega), hat 2 (by omega), hat 3 (by omega), hat 4 (by omega), h64, h64', hA1, hA2⟩
        have := hat 0 (by omega)
        simpa [Addr.add] using this
    haveI : Inhabited (Lp × (Option Addr × Nat) × (Option Addr × Nat)) := ⟨(⟨false, .node 0 [], .node 0 []⟩, (none, 0), (none, 0))⟩
    obtain ⟨q, hq⟩ := Go.Deep.choose_lt each
    have hget : ∀ (i : Nat) (t : Lp), ((List.range len0).map fun i => (q i).1)[i]? = some t → i < len0 ∧ t = (q i).1 := by
      intro i t e
      have hi : i < len0 := by have := (List.getElem?_eq_some_iff.1 e).1; simpa using this
      rw [List.getElem?_map, List.getElem?_range hi] at e
      simp at e
      exact ⟨hi, e.symm⟩
    refine ⟨(List.range len0).map fun i => (q i).1, some a, cap0, by rw [hv]; simp, ⟨by unfold maxLen at hmax; simp; omega, fun hp => ?_⟩, by simpa using hb⟩
    have h0 : 0 < len0 := by simpa using hp
    have c00 := (hq 0 h0).1
    simp only [Nat.zero_mul, Addr.add, if_true] at c00
    obtain ⟨blk, off, spot⟩ := a
    obtain rfl : spot = none := cell_spot c00
    refine ⟨blk, off, rfl, World.block_lt_of_cell? W _ c00, fun i t e => ?_⟩
    obtain ⟨hi, rfl⟩ := hget i t e
    obtain ⟨h3, h4, h5, h6, h7, h1, h2, h8, h9⟩ := hq i hi
    rw [Addr.add_lit] at h3
    rw [Addr.add_lit, Addr.add_lit] at h4 h5 h6 h7
    exact ⟨(q i).2.1.1, (q i).2.1.2, (q i).2.2.1, (q i).2.2.2, h3, h4, h5, h6, h7, h1, h2, h8.toN, h9.toN⟩
theorem itmL_two : ∀ l : List Lp, (itmL l).length ≤ 2 * l.length
  | [] => by simp [itmL]
  | x :: l => by
    have := itmL_two l
    unfold itmL at *
    rw [List.flatMap_cons, List.length_append, List.length_cons]
    have : (itm x).length ≤ 2 := by unfold itm; split <;> simp
    omega
theorem itms_two : ∀ (cl : List (List Lp)) (ds : List (DataW H)), cl.length = ds.length → (∀ (i : Nat) (l : List Lp) (d : DataW H), cl[i]? = some l → ds[i]? = some d → l.length ≤ Rows.uptoBulk d) → (itms cl).length ≤ 2 * Rows.uptoBulkAll ds
  | [], [], _, _ => by simp [itms]
  | [], _ :: _, h, _ => by simp at h
  | _ :: _, [], h, _ => by simp at h
  | l :: cl, d :: ds, h, hh => by
    have h1 := hh 0 l d rfl rfl
    have h2 := itms_two cl ds (by simpa using h) fun i t' d' e1 e2 => hh (i + 1) t' d' (by simpa using e1) (by simpa using e2)
    have h3 := itmL_two l
    unfold itms at *
    rw [List.flatMap_cons, List.length_append]
    simp only [Rows.uptoBulkAll]
    omega
theorem open_clauses {r : Reach} {b0 : Nat} {v : Value} {d : DataW H} {ps : List MemPlace} (hv : Value.okWide Tryz.prog W r b0 25 v) (h : DataW.Trod enc Tryz.prog W base (fun _ => true) held 25 v d ps) :
    ∃ (cl : List (List Lp)) (A : Option Addr) (c : Nat), v = .slice A cl.length c ∧ ClRow W (· < W.heap.size) A cl ∧ (itms cl).length ≤ 2 * Rows.uptoBulk d := by
  obtain ⟨a0, len0, cap0, rfl⟩ := okWide_slice Tryz.underlying25 hv
  obtain ⟨fuel, hf⟩ := h
  have hf' : DataW.trod enc Tryz.prog W base (fun _ => true) held fuel 25 [.slice a0 len0 cap0] = some (d, ps) := hf
  rcases DataW.trod_slice Tryz.underlying25 hf' with ⟨hv, e1⟩ | ⟨a, len, cap, elems, rest, m, hm, hv, e1, _, hl, hmax, hlenE, hel, _, _⟩
  · injection hv with hv
    injection hv with e2 e3 e4
    subst e2; subst e3; subst e4
    exact ⟨[], none, 0, rfl, ⟨by simp, fun h => by simp at h⟩, by simp [itms]⟩
  · injection hv with hv
    injection hv with e2 e3 e4
    subst e2; subst e3; subst e4
    have each : ∀ i, i < len0 → ∃ q : List Lp × Option Addr × Nat, W.cell? (a.add i) = some (.slice q.2.1 q.1.length q.2.2) ∧ LpRow W (· < W.heap.size) q.2.1 q.1 ∧ ∀ z, elems[i]? = some z → q.1.length ≤ Rows.uptoBulk z.1 := by
      intro i hi
      have h1 := hel i hi
      rw [cellsClauseP, Nat.mul_one] at h1
      rw [List.getElem?_eq_getElem (by omega)] at h1
      cases hc : W.cells? base (a.add i) 1 with
      | none => rw [hc] at h1; cases h1
      | some cs' =>
        rw [hc] at h1
        simp only [Option.bind_some] at h1
        obtain ⟨l, A1, c1, rfl, hL, hb⟩ := trodP_clause _ cs' _ h1
        obtain ⟨_, _, hat⟩ := World.cells?_some hc
        refine ⟨(l, A1, c1), ?_, hL, fun z hz => ?_⟩
        · have := hat 0 (by omega)
          simpa [Addr.add] using this
        · rw [List.getElem?_eq_getElem (by omega)] at hz
          obtain rfl := Option.some.inj hz
          exact hb
    haveI : Inhabited (List Lp × Option Addr × Nat) := ⟨([], none, 0)⟩
    obtain ⟨q, hq⟩ := Go.Deep.choose_lt each
    have hget : ∀ (i : Nat) (t : List Lp), ((List.range len0).map fun i => (q i).1)[i]? = some t → i < len0 ∧ t = (q i).1 := by
      intro i t e
      have hi : i < len0 := by have := (List.getElem?_eq_some_iff.1 e).1; simpa using this
      rw [List.getElem?_map, List.getElem?_range hi] at e
      simp at e
      exact ⟨hi, e.symm⟩
    refine ⟨(List.range len0).map fun i => (q i).1, some a, cap0, by simp, ⟨by unfold maxLen at hmax; simp; omega, fun hp => ?_⟩, ?_⟩
    · have h0 : 0 < len0 := by simpa using hp
      have c00 := (hq 0 h0).1
      simp only [Addr.add, if_true] at c00
      obtain ⟨blk, off, spot⟩ := a
      obtain rfl : spot = none := cell_spot c00
      refine ⟨blk, off, rfl, World.block_lt_of_cell? W _ c00, fun i t e => ?_⟩
      obtain ⟨hi, rfl⟩ := hget i t e
      obtain ⟨h3, h4, _⟩ := hq i hi
      rw [Addr.add_lit] at h3
      exact ⟨(q i).2.1, (q i).2.2, h3, h4⟩
    · have h9 := itms_two ((List.range len0).map fun i => (q i).1) (elems.map (·.1)) (by simp; omega) fun i l z e1 e2 => by
        obtain ⟨hi, rfl⟩ := hget i l e1
        rw [List.getElem?_map] at e2
        cases he : elems[i]? with
        | none => rw [he] at e2; cases e2
        | some y =>
          rw [he] at e2
          simp only [Option.map_some] at e2
          obtain rfl := Option.some.inj e2
          exact (hq i hi).2.2 y he
      have e5 := congrArg (fun z => Rows.uptoBulk z.1) e1
      simp only [Rows.uptoBulk] at e5
      omega
theorem open_way {r : Reach} {b0 : Nat} {v : Value} {d : DataW H} {ps : List MemPlace} (hv : Value.okWide Tryz.prog W r b0 29 v) (h : DataW.Trod enc Tryz.prog W base (fun _ => true) held 29 v d ps) :
    ∃ (lpo top : Bool) (b wb : Int), v = .agg #[.bool lpo, .int .i64 b, .int .i64 wb, .bool top] := by
  obtain ⟨cs, rfl, _⟩ := okWide_struct Tryz.underlying29 hv
  obtain ⟨fuel, hf⟩ := h
  have hf' : DataW.trod enc Tryz.prog W base (fun _ => true) held fuel 29 cs.toList = some (d, ps) := hf
  obtain ⟨xs, n', _, hx, hlen, hxs, hg⟩ := DataW.trod_struct Tryz.underlying29 hf'
  have cw : Tryz.prog.cellsOf 29 = 4 := by kernel_rfl
  rw [cw] at hlen
  obtain ⟨l, hl⟩ : ∃ l, cs.toList = l := ⟨_, rfl⟩
  rw [hl] at hlen hg
  match l, hlen, hl with
  | [c0, c1, c2, c3], _, hl =>
    have hx2 : xs.length = 4 := by rw [hxs]; rfl
    match xs, hx2 with
    | [x0, x1, x2, x3], _ =>
      have g0 := hg 0 _ rfl
      have g1 := hg 1 _ rfl
      have g2 := hg 2 _ rfl
      have g3 := hg 3 _ rfl
      simp [cellsBoolP] at g0
      simp [cellsPrecByP] at g1
      simp [cellsWeightByP] at g2
      simp [cellsBoolP] at g3
      obtain ⟨b, hbv, _⟩ := DataW.trod_bool Tryz.underlying4 g0
      injection hbv with hbv
      subst hbv
      obtain ⟨f, hfv, _, hw⟩ := DataW.trod_int Tryz.underlying26 g1
      injection hfv with hfv
      subst hfv
      obtain ⟨g, hgv, _, hw2⟩ := DataW.trod_int Tryz.underlying27 g2
      injection hgv with hgv
      subst hgv
      obtain ⟨b3, hbv3, _⟩ := DataW.trod_bool Tryz.underlying4 g3
      injection hbv3 with hbv3
      subst hbv3
      exact ⟨b, b3, f, g, by rw [show cs = #[.bool b, .int .i64 f, .int .i64 g, .bool b3] from Array.toList_inj.1 (by rw [hl])]⟩
end
end Go.Proofs.YthgglobfkkcdgaaGreatDoor
namespace Go.Proofs.YthgglobfkkcdgaaGreatDoor
open Go.ChangeShapes Go.WideShapes Go.ChangeAt Go.RowKit
set_option maxRecDepth 20000
section
variable {H : Type} {enc : TypeId × Value → H} {W : World} {base : Nat} {held : Bool}
theorem cellsBind : Tryz.prog.cellsOf 45 = 3 := by kernel_rfl
theorem trod_bind (n : Nat) (cs : List Value) (x : DataW H × List MemPlace) (h : DataW.trod enc Tryz.prog W base (fun _ => true) held n 45 cs = some x) :
    ∃ (b : Bd) (A : Option Addr) (c : Nat), cs = [.int .i64 b.v, .int .i64 b.t.fn, .slice A b.t.args.length c] ∧ I64 b.v ∧ I64 b.t.fn ∧ Args W W.heap.size A b.t.args ∧ b.t.size ≤ Rows.uptoBulk x.1 := by
  obtain ⟨xs, n', rfl, hx, hlen, hxs, hf⟩ := DataW.trod_struct Tryz.underlying45 h
  rw [cellsBind] at hlen
  match cs, hlen with
  | [c0, c1, c2], _ =>
    have hx2 : xs.length = 2 := by rw [hxs]; rfl
    match xs, hx2 with
    | [x0, x1], _ =>
      have g0 := hf 0 _ rfl
      have g1 := hf 1 _ rfl
      simp [cellsInt] at g0
      simp [cellsTerm] at g1
      obtain ⟨f, hfv, ef, hw⟩ := DataW.trod_int Tryz.underlying3 g0
      injection hfv with hfv
      subst hfv
      have hf64 : I64 f := by
        have := hw
        simp [Lit.wf, IntKind.min, IntKind.max, IntKind.signed, IntKind.bits] at this
        exact this
      obtain ⟨t, A, c, hcs, ht64, hA, hb⟩ := trod_term _ _ _ g1
      injection hcs with e1 hcs
      injection hcs with e2 _
      subst e1; subst e2
      refine ⟨⟨f, t⟩, A, c, rfl, hf64, ht64, hA, ?_⟩
      subst hx
      simp only [ef, List.map_cons, List.map_nil, Rows.uptoBulk, Rows.uptoBulkAll]
      omega
theorem bulk_mem : ∀ {ds : List (DataW H)} {d : DataW H}, d ∈ ds → Rows.uptoBulk d ≤ Rows.uptoBulkAll ds
  | [], _, h => by simp at h
  | d' :: ds, d, h => by
    simp only [Rows.uptoBulkAll]
    rcases List.mem_cons.1 h with rfl | h
    · omega
    · have := bulk_mem h; omega
end
end Go.Proofs.YthgglobfkkcdgaaGreatDoor
namespace Go.Proofs.YthgglobfkkcdgaaGreatDoor
open Go.ChangeShapes Go.WideShapes Go.ChangeAt Go.RowKit
set_option maxRecDepth 20000
section
variable {H : Type} {enc : TypeId × Value → H} {W : World} {base : Nat} {held : Bool}
theorem open_substN {r : Reach} {b0 : Nat} {v : Value} {d : DataW H} {ps : List MemPlace} (hv : Value.okWide Tryz.prog W r b0 34 v) (h : DataW.Trod enc Tryz.prog W base (fun _ => true) held 34 v d ps) :
    ∃ (l : List Bd) (A : Option Addr) (c : Nat), v = .slice A l.length c ∧ Binds W (· < W.heap.size) A l ∧ (∀ x ∈ l, x.t.size ≤ Rows.uptoBulk d) ∧ l.length ≤ Rows.uptoBulk d := by
  obtain ⟨a0, len0, cap0, rfl⟩ := okWide_slice Tryz.underlying34 hv
  obtain ⟨fuel, hf⟩ := h
  have hf' : DataW.trod enc Tryz.prog W base (fun _ => true) held fuel 34 [.slice a0 len0 cap0] = some (d, ps) := hf
  rcases DataW.trod_slice Tryz.underlying34 hf' with ⟨hv, e1⟩ | ⟨a, len, cap, elems, rest, m, hm, hv, e1, _, hl, hmax, hlenE, hel, _, _⟩
  · injection hv with hv
    injection hv with e2 e3 e4
    subst e2; subst e3; subst e4
    exact ⟨[], none, 0, rfl, Binds.nil_ _ _ _, by simp, by simp⟩
  · injection hv with hv
    injection hv with e2 e3 e4
    subst e2; subst e3; subst e4
    have each : ∀ i, i < len0 → ∃ q : Bd × Option Addr × Nat × DataW H, I64 q.1.v ∧ I64 q.1.t.fn ∧ W.cell? (a.add (i * 3)) = some (.int .i64 q.1.v) ∧ W.cell? ((a.add (i * 3)).add 1) = some (.int .i64 q.1.t.fn) ∧ W.cell? ((a.add (i * 3)).add 2) = some (.slice q.2.1 q.1.t.args.length q.2.2.1) ∧ Args W W.heap.size q.2.1 q.1.t.args ∧ q.1.t.size ≤ Rows.uptoBulk q.2.2.2 ∧ q.2.2.2 ∈ elems.map (·.1) := by
      intro i hi
      have h1 := hel i hi
      rw [cellsBind] at h1
      rw [List.getElem?_eq_getElem (by omega)] at h1
      cases hc : W.cells? base (a.add (i * 3)) 3 with
      | none => rw [hc] at h1; cases h1
      | some cs' =>
        rw [hc] at h1
        simp only [Option.bind_some] at h1
        obtain ⟨b, A, c, rfl, hb64, ht64, hA, hb⟩ := trod_bind _ cs' _ h1
        obtain ⟨_, _, hat⟩ := World.cells?_some hc
        refine ⟨(b, A, c, (elems[i]'(by omega)).1), hb64, ht64, ?_, hat 1 (by omega), hat 2 (by omega), hA, hb, List.mem_map.2 ⟨_, List.getElem_mem _, rfl⟩⟩
        have := hat 0 (by omega)
        simpa [Addr.add] using this
    haveI : Inhabited (Bd × Option Addr × Nat × DataW H) := ⟨(⟨0, .node 0 []⟩, none, 0, .nil)⟩
    obtain ⟨q, hq⟩ := Go.Deep.choose_lt each
    have hget : ∀ (i : Nat) (t : Bd), ((List.range len0).map fun i => (q i).1)[i]? = some t → i < len0 ∧ t = (q i).1 := by
      intro i t e
      have hi : i < len0 := by have := (List.getElem?_eq_some_iff.1 e).1; simpa using this
      rw [List.getElem?_map, List.getElem?_range hi] at e
      simp at e
      exact ⟨hi, e.symm⟩
    refine ⟨(List.range len0).map fun i => (q i).1, some a, cap0, by simp, ?_, ?_, ?_⟩
    · rcases Nat.eq_zero_or_pos len0 with h0 | h0
      · subst h0; exact Binds.nil_ _ _ _
      · have c00 := (hq 0 h0).2.2.1
        simp only [Nat.zero_mul, Addr.add, if_true] at c00
        obtain ⟨blk, off, spot⟩ := a
        obtain rfl : spot = none := cell_spot c00
        have hblk : blk < W.heap.size := World.block_lt_of_cell? W _ c00
        refine ⟨by unfold maxLen at hmax; simp; omega, fun _ => ⟨blk, off, rfl, hblk, fun i t e => ?_⟩⟩
        obtain ⟨hi, rfl⟩ := hget i t e
        obtain ⟨h1, h2, h3, h4, h5, h6, _⟩ := hq i hi
        rw [Addr.add_lit] at h3
        rw [Addr.add_lit, Addr.add_lit] at h4 h5
        exact ⟨(q i).2.1, (q i).2.2.1, h3, h4, h5, h1, h2, h6.toN⟩
    · intro x hx
      obtain ⟨i, hi, rfl⟩ := List.mem_map.1 hx
      have hi' : i < len0 := by simpa using hi
      obtain ⟨_, _, _, _, _, _, h7, h8⟩ := hq i hi'
      have h9 := bulk_mem h8
      have e5 := congrArg (fun z => Rows.uptoBulk z.1) e1
      simp only [Rows.uptoBulk] at e5
      show (q i).1.t.size ≤ _
      omega
    · have e5 := congrArg (fun z => Rows.uptoBulk z.1) e1
      simp only [Rows.uptoBulk] at e5
      have e6 := bulk_length (elems.map fun x => x.1)
      rw [List.length_map] at e6
      simp
      omega
end
end Go.Proofs.YthgglobfkkcdgaaGreatDoor
namespace Go.Proofs.YthgglobfkkcdgaaGreatDoor
open Go.ChangeShapes Go.WideShapes Go.ChangeAt Go.RowKit
set_option maxRecDepth 20000
section
variable {H : Type} {enc : TypeId × Value → H} {W : World} {base : Nat} {held : Bool}
theorem trodk_term : ∀ (n : Nat) (cs : List Value) (x : DataW H × List MemPlace), DataW.trod enc Tryz.prog W base (fun _ => true) held n 32 cs = some x →
    ∃ (t : Tm) (A : Option Addr) (c : Nat), cs = [.int .i64 t.fn, .slice A t.args.length c] ∧ I64 t.fn ∧ ArgsK W (· < W.heap.size) A c t.args ∧ t.size ≤ Rows.uptoBulk x.1 := by
  intro n
  induction n using Nat.strongRecOn with
  | ind n ih =>
    intro cs x h
    obtain ⟨xs, n', rfl, hx, hlen, hxs, hf⟩ := DataW.trod_struct Tryz.underlying32 h
    rw [cellsTerm] at hlen
    match cs, hlen with
    | [c0, c1], _ =>
      have hx2 : xs.length = 2 := by rw [hxs]; rfl
      match xs, hx2 with
      | [x0, x1], _ =>
        have g0 := hf 0 _ rfl
        have g1 := hf 1 _ rfl
        simp [cellsInt] at g0
        simp [cellsTerms] at g1
        obtain ⟨f, hfv, ef, hw⟩ := DataW.trod_int Tryz.underlying3 g0
        injection hfv with hfv
        subst hfv
        have hf64 : I64 f := by
          have := hw
          simp [Lit.wf, IntKind.min, IntKind.max, IntKind.signed, IntKind.bits] at this
          exact this
        rcases DataW.trod_slice Tryz.underlying30 g1 with ⟨hv, e1⟩ | ⟨a, len, cap, elems, rest, m, hm, hv, e1, _, hl, hmax, hlenE, hel, _, _⟩
        · injection hv with hv
          subst hv
          refine ⟨.node f [], none, 0, rfl, hf64, .nil none 0, ?_⟩
          subst hx
          simp [ef, e1, Tm.size, sizes, Rows.uptoBulk, Rows.uptoBulkAll]
        · injection hv with hv
          subst hv
          have each : ∀ i, i < len → ∃ q : Tm × Option Addr × Nat × DataW H, I64 q.1.fn ∧ W.cell? (a.add (i * 2)) = some (.int .i64 q.1.fn) ∧ W.cell? ((a.add (i * 2)).add 1) = some (.slice q.2.1 q.1.args.length q.2.2.1) ∧ ArgsK W (· < W.heap.size) q.2.1 q.2.2.1 q.1.args ∧ q.1.size ≤ Rows.uptoBulk q.2.2.2 ∧ (elems.map (·.1))[i]? = some q.2.2.2 := by
            intro i hi
            have h1 := hel i hi
            rw [cellsTerm] at h1
            rw [List.getElem?_eq_getElem (by omega)] at h1
            cases hc : W.cells? base (a.add (i * 2)) 2 with
            | none => rw [hc] at h1; cases h1
            | some cs' =>
              rw [hc] at h1
              simp only [Option.bind_some] at h1
              obtain ⟨t, A, c, rfl, ht64, hA, hb⟩ := ih m (by omega) cs' _ h1
              obtain ⟨_, _, hat⟩ := World.cells?_some hc
              refine ⟨(t, A, c, (elems[i]'(by omega)).1), ht64, ?_, hat 1 (by omega), hA, hb, by rw [List.getElem?_map, List.getElem?_eq_getElem (show i < elems.length by omega)]; rfl⟩
              have := hat 0 (by omega)
              simpa [Addr.add] using this
          haveI : Inhabited (Tm × Option Addr × Nat × DataW H) := ⟨(.node 0 [], none, 0, .nil)⟩
          obtain ⟨q, hq⟩ := Go.Deep.choose_lt each
          have hget : ∀ (i : Nat) (t : Tm), ((List.range len).map fun i => (q i).1)[i]? = some t → i < len ∧ t = (q i).1 := by
            intro i t e
            have hi : i < len := by have := (List.getElem?_eq_some_iff.1 e).1; simpa using this
            rw [List.getElem?_map, List.getElem?_range hi] at e
            simp at e
            exact ⟨hi, e.symm⟩
          refine ⟨.node f ((List.range len).map fun i => (q i).1), some a, cap, by simp [Tm.fn, Tm.args], hf64, ?_, ?_⟩
          · rcases Nat.eq_zero_or_pos len with h0 | h0
            · subst h0; exact .nil _ _
            · have c00 := (hq 0 h0).2.1
              simp only [Nat.zero_mul, Addr.add, if_true] at c00
              obtain ⟨blk, off, spot⟩ := a
              obtain rfl : spot = none := cell_spot c00
              have hblk : blk < W.heap.size := by
                unfold World.cell? at c00
                rcases Nat.lt_or_ge blk W.heap.size with h1 | h1
                · exact h1
                · simp [Array.getElem?_eq_none h1] at c00
              simp only [Tm.args]
              refine .row blk off cap _ (fun i => (q i).2.1) (fun i => (q i).2.2.1) (by simpa using hl) hblk (by unfold maxLen at hmax; simp; omega) (fun i t e => ?_) (fun i t e => ?_) (fun i t e => ?_) (fun i t e => ?_)
              · obtain ⟨hi, rfl⟩ := hget i t e
                exact (hq i hi).1
              · obtain ⟨hi, rfl⟩ := hget i t e
                have := (hq i hi).2.1
                rwa [Addr.add_lit] at this
              · obtain ⟨hi, rfl⟩ := hget i t e
                have := (hq i hi).2.2.1
                rwa [Addr.add_lit, Addr.add_lit] at this
              · obtain ⟨hi, rfl⟩ := hget i t e
                exact (hq i hi).2.2.2.1
          · subst hx
            have hb : sizes ((List.range len).map fun i => (q i).1) ≤ Rows.uptoBulkAll (elems.map (·.1)) := by
              refine bulk_all _ _ (by simp [hlenE]) fun i t d e1 e2 => ?_
              obtain ⟨hi, rfl⟩ := hget i t e1
              have h5 := (hq i hi).2.2.2.2
              rw [h5.2] at e2
              cases e2
              exact h5.1
            simp only [ef, e1, Tm.size, List.map_cons, List.map_nil, Rows.uptoBulk, Rows.uptoBulkAll]
            omega
theorem openk_term {r : Reach} {b0 : Nat} {v : Value} {d : DataW H} {ps : List MemPlace} (hv : Value.okWide Tryz.prog W r b0 32 v) (h : DataW.Trod enc Tryz.prog W base (fun _ => true) held 32 v d ps) :
    ∃ (t : Tm) (A : Option Addr) (c : Nat), v = .agg #[.int .i64 t.fn, .slice A t.args.length c] ∧ I64 t.fn ∧ ArgsK W (· < W.heap.size) A c t.args ∧ t.size ≤ Rows.uptoBulk d := by
  obtain ⟨cs, rfl, _⟩ := okWide_struct Tryz.underlying32 hv
  obtain ⟨fuel, hf⟩ := h
  obtain ⟨t, A, c, hcs, h1, h2, h3⟩ := trodk_term _ _ _ hf
  refine ⟨t, A, c, ?_, h1, h2, h3⟩
  have hcs' : cs.toList = [.int .i64 t.fn, .slice A t.args.length c] := hcs
  rw [show cs = #[.int .i64 t.fn, .slice A t.args.length c] from Array.toList_inj.1 (by rw [hcs'])]
end
end Go.Proofs.YthgglobfkkcdgaaGreatDoor
namespace Go.Proofs.YthgglobfkkcdgaaGreatDoor
open Go.ChangeShapes Go.WideShapes Go.ChangeAt Go.RowKit
section
variable {H : Type} {enc : TypeId × Value → H} {P : Program}
theorem trodAll_later (hl : laidOutB P = true) {W W' : World} (hb : Below W.heap.size W W') : ∀ {ts : List TypeId} {vs : List Value} {ds : List (DataW H)} {ps : List MemPlace},
    (ts.all fun t => P.readableRec t && decide (t < P.types.size)) = true → (∀ x ∈ ps, x.block < W.heap.size) → DataW.TrodAll enc P W 0 (fun _ => true) true ts vs ds ps → DataW.TrodAll enc P W' 0 (fun b => decide (b < W.heap.size)) true ts vs ds ps
  | [], [], [], _, _, _, h => h
  | [], [], _ :: _, _, _, _, h => h.elim
  | [], _ :: _, _, _, _, _, h => h.elim
  | _ :: _, [], _, _, _, _, h => h.elim
  | _ :: _, _ :: _, [], _, _, _, h => h.elim
  | t :: ts, v :: vs, d :: ds, ps, hr, hlt, h => by
    obtain ⟨p, q, h1, h2, rfl⟩ := h
    simp only [List.all_cons, Bool.and_eq_true, decide_eq_true_eq] at hr
    exact ⟨p, q, Below.trod hl hr.1.1 hr.1.2 h1 hb (fun x hx => hlt x (List.mem_append_left _ hx)), trodAll_later hl hb hr.2 (fun x hx => hlt x (List.mem_append_right _ hx)) h2, rfl⟩
theorem law_post (hl : laidOutB P = true) {f : Func} {s : ChangeSpec} {tb : TypeId} (hv : s.vars = []) (hrt : f.resultTypes = #[tb]) (htb : P.underlying tb = some .bool)
    (hread : (f.params.toList.all fun t => P.readableRec t && decide (t < P.types.size)) = true) {W W' : World} {args : Array Value} {ds gs : List (DataW H)} {before : List MemPlace}
    (hW : DataW.Whole enc P f.params.toList s.vars false W args.toList ds gs before) (hfn : s.fn H (ds ++ gs) = { results := [.lit (.bool true)], args := ds }) (hb : Below W.heap.size W W') :
    s.post enc P f false true false false W args (.bool true) W' := by
  have hlt := hW.lt
  have hW' := hW
  obtain ⟨p, q, hA, hV, rfl, hfz, _⟩ := hW'
  have hV' : gs = [] ∧ q = [] := by
    rw [hv] at hV
    cases gs with
    | nil => exact ⟨rfl, hV⟩
    | cons _ _ => exact hV.elim
  obtain ⟨rfl, rfl⟩ := hV'
  have hold : ∀ x ∈ p, x.block < W.heap.size := fun x hx => hlt x (by simp [hx])
  refine ⟨ds, [], p ++ [], [], p, [], hW, ?_, ?_, ?_, World.keptBut_mono (fun x hx => ⟨hx, ?_⟩) (hb.frame (· ∈ p ++ [])), fun h => by cases h⟩
  · rw [hfn, hrt]
    exact trodAll_mk1 (shut_bool htb _)
  · rw [hfn]
    exact trodAll_later hl hb hread hold hA
  · rw [hfn, hv]
    rfl
  · rw [List.append_nil] at hx
    exact .inr (.inl hx)
end
end Go.Proofs.YthgglobfkkcdgaaGreatDoor
namespace Go.Proofs.YthgglobfkkcdgaaGreatDoor
open Go.ChangeShapes Go.WideShapes Go.ChangeAt Go.RowKit
theorem own : ownKnob Tryz.prog.godebug = none := by kernel_rfl
theorem gTruth : Tryz.prog.globalNamed "syllogism/sign.truth" = some 0 := by kernel_rfl
theorem gTruthType : (Tryz.prog.globals[0]?).map (·.type) = some 67 := by kernel_rfl
theorem cell_spot' {W : World} {b o : Nat} {v : Value} (h : W.cell? ⟨b, o, none⟩ = some v) : b < W.heap.size := by
  unfold World.cell? at h
  rcases Nat.lt_or_ge b W.heap.size with h1 | h1
  · exact h1
  · simp [Array.getElem?_eq_none h1] at h
theorem tru_of_laid {W : World} {rest : List (String × DataW Unit)} (h : laidMet Tryz.prog (("syllogism/sign.truth", Rows.laid_syllogism_sign_truth) :: rest) W) : tru W := by
  obtain ⟨ps, ⟨g', t', cs, fuel, p, q, hg', ht', hvar, hd, _, _⟩, _⟩ := h
  obtain rfl := Option.some.inj (gTruth.symm.trans hg')
  obtain rfl := Option.some.inj (gTruthType.symm.trans ht')
  obtain ⟨s, hcs, _, hx⟩ := trod_sym hd
  have hs : s = truthSm := by
    obtain ⟨a, b, c⟩ := s
    simp [Rows.laid_syllogism_sign_truth] at hx
    obtain ⟨h1, rfl, rfl⟩ := hx
    have : a = truthS := ByteArray.ext (Array.toList_inj.1 h1.symm)
    rw [this]
    rfl
  subst hs
  have hc0 := World.var?_cell hg' hvar 0
  have hc1 := World.var?_cell hg' hvar 1
  have hc2 := World.var?_cell hg' hvar 2
  obtain ⟨cl⟩ := cs
  simp only at hcs
  subst hcs
  refine ⟨hc0, hc1, hc2, ?_⟩
  have := cell_spot' hc0
  exact this
end Go.Proofs.YthgglobfkkcdgaaGreatDoor
namespace Go.Proofs.YthgglobfkkcdgaaGreatDoor
open Go.ChangeShapes Go.WideShapes Go.ChangeAt Go.RowKit
set_option maxRecDepth 20000
variable {H : Type} {enc : TypeId × Value → H} {W : World} {base : Nat} {held : Bool}
end Go.Proofs.YthgglobfkkcdgaaGreatDoor
