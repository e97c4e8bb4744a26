import Derived.Test.YtfnncphkidhbpaaDoorP47Z1
import Derived.Test.YtfnncphkidhbpaaDoorRows
import Derived.Test.YtfnncphkidhbpaaDoorP43Z5
import Derived.ChangeSlices
import Derived.ProofKit
import Derived.Below
import Derived.Carry
import Derived.Test.YtfnncphkidhbpaaDoorCards
import Derived.WalkKit
import Derived.OpenShut
import Derived.Deep.DeepHandedRow
import Derived.Lib.LaidTab
import Derived.MakeChecks
/- A signature that is an argument: its length is bounded by what the arguments hold together. -/

namespace Go.Proofs.YtfnncphkidhbpaaDoor

open Go.ChangeShapes Go.WideShapes Go.ChangeAt Go.RowKit
set_option maxRecDepth 20000

theorem bulk_pos {H : Type} (d : DataW H) : 1 ≤ Rows.uptoBulk d := by
  cases d with
  | lit l => cases l <;> simp [Rows.uptoBulk]
  | _ => simp [Rows.uptoBulk]

theorem bulk_length {H : Type} : ∀ ds : List (DataW H), ds.length ≤ Rows.uptoBulkAll ds
  | [] => by simp
  | d :: ds => by
    have h1 := bulk_pos d
    have h2 := bulk_length ds
    simp only [Rows.uptoBulkAll, List.length_cons]; omega

theorem sig_bulk {H : Type} {d : DataW H} {len : Nat} (hl : len = 0 ∨ ∃ elems spare, d = .agg [.slice elems spare] ∧ elems.length = len) : len ≤ Rows.uptoBulk d := by
  rcases hl with rfl | ⟨elems, spare, rfl, rfl⟩
  · omega
  · have := bulk_length elems
    simp only [Rows.uptoBulk, Rows.uptoBulkAll]; omega

theorem trodAll_five {H : Type} {enc : TypeId × Value → H} {P : Program} {w : World} {base : Nat} {spare : Nat → Bool} {held : Bool} {t0 t1 t2 t3 t4 : TypeId} {args : Array Value} {ds : List (DataW H)} {ps : List MemPlace} (h : DataW.TrodAll enc P w base spare held [t0, t1, t2, t3, t4] args.toList ds ps) :
    ∃ v0 v1 v2 v3 v4 d0 d1 d2 d3 d4 p0 p1 p2 p3 p4, args = #[v0, v1, v2, v3, v4] ∧ ds = [d0, d1, d2, d3, d4] ∧ ps = p0 ++ (p1 ++ (p2 ++ (p3 ++ (p4)))) ∧ DataW.Trod enc P w base spare held t0 v0 d0 p0 ∧ DataW.Trod enc P w base spare held t1 v1 d1 p1 ∧ DataW.Trod enc P w base spare held t2 v2 d2 p2 ∧ DataW.Trod enc P w base spare held t3 v3 d3 p3 ∧ DataW.Trod enc P w base spare held t4 v4 d4 p4 := by
  obtain ⟨v0, w0, d0, e0, p0, q0, hargs, rfl, rfl, k0, r0⟩ := trodAll_cons h
  obtain ⟨v1, w1, d1, e1, p1, q1, rfl, rfl, rfl, k1, r1⟩ := trodAll_cons r0
  obtain ⟨v2, w2, d2, e2, p2, q2, rfl, rfl, rfl, k2, r2⟩ := trodAll_cons r1
  obtain ⟨v3, w3, d3, e3, p3, q3, rfl, rfl, rfl, k3, r3⟩ := trodAll_cons r2
  obtain ⟨v4, w4, d4, e4, p4, q4, rfl, rfl, rfl, k4, r4⟩ := trodAll_cons r3
  obtain ⟨rfl, rfl, rfl⟩ := trodAll_nil r4
  exact ⟨v0, v1, v2, v3, v4, d0, d1, d2, d3, d4, p0, p1, p2, p3, p4, by cases args; simp_all, rfl, by simp, k0, k1, k2, k3, k4⟩

theorem trodAll_six {H : Type} {enc : TypeId × Value → H} {P : Program} {w : World} {base : Nat} {spare : Nat → Bool} {held : Bool} {t0 t1 t2 t3 t4 t5 : TypeId} {args : Array Value} {ds : List (DataW H)} {ps : List MemPlace} (h : DataW.TrodAll enc P w base spare held [t0, t1, t2, t3, t4, t5] args.toList ds ps) :
    ∃ v0 v1 v2 v3 v4 v5 d0 d1 d2 d3 d4 d5 p0 p1 p2 p3 p4 p5, args = #[v0, v1, v2, v3, v4, v5] ∧ ds = [d0, d1, d2, d3, d4, d5] ∧ ps = p0 ++ (p1 ++ (p2 ++ (p3 ++ (p4 ++ (p5))))) ∧ DataW.Trod enc P w base spare held t0 v0 d0 p0 ∧ DataW.Trod enc P w base spare held t1 v1 d1 p1 ∧ DataW.Trod enc P w base spare held t2 v2 d2 p2 ∧ DataW.Trod enc P w base spare held t3 v3 d3 p3 ∧ DataW.Trod enc P w base spare held t4 v4 d4 p4 ∧ DataW.Trod enc P w base spare held t5 v5 d5 p5 := by
  obtain ⟨v0, w0, d0, e0, p0, q0, hargs, rfl, rfl, k0, r0⟩ := trodAll_cons h
  obtain ⟨v1, w1, d1, e1, p1, q1, rfl, rfl, rfl, k1, r1⟩ := trodAll_cons r0
  obtain ⟨v2, w2, d2, e2, p2, q2, rfl, rfl, rfl, k2, r2⟩ := trodAll_cons r1
  obtain ⟨v3, w3, d3, e3, p3, q3, rfl, rfl, rfl, k3, r3⟩ := trodAll_cons r2
  obtain ⟨v4, w4, d4, e4, p4, q4, rfl, rfl, rfl, k4, r4⟩ := trodAll_cons r3
  obtain ⟨v5, w5, d5, e5, p5, q5, rfl, rfl, rfl, k5, r5⟩ := trodAll_cons r4
  obtain ⟨rfl, rfl, rfl⟩ := trodAll_nil r5
  exact ⟨v0, v1, v2, v3, v4, v5, d0, d1, d2, d3, d4, d5, p0, p1, p2, p3, p4, p5, by cases args; simp_all, rfl, by simp, k0, k1, k2, k3, k4, k5⟩

end Go.Proofs.YtfnncphkidhbpaaDoor

/- Clauses that are an argument, opened; a way. -/

namespace Go.Proofs.YtfnncphkidhbpaaDoor

open Go.ChangeShapes Go.WideShapes Go.ChangeAt Go.RowKit
set_option maxRecDepth 20000

section

variable {H : Type} {enc : TypeId × Value → H} {W : World} {base : Nat} {held : Bool}

theorem cellsLitP : Tryd.prog.cellsOf 49 = 5 := by kernel_rfl

theorem cellsClauseP : Tryd.prog.cellsOf 39 = 1 := by kernel_rfl

theorem cellsBoolP : Tryd.prog.cellsOf 4 = 1 := by kernel_rfl

theorem cellsPrecByP : Tryd.prog.cellsOf 31 = 1 := by kernel_rfl

theorem cellsWeightByP : Tryd.prog.cellsOf 32 = 1 := by kernel_rfl

theorem trodP_lit (n : Nat) (cs : List Value) (x : DataW H × List MemPlace) (h : DataW.trod enc Tryd.prog W base (fun _ => true) held n 49 cs = some x) :
    ∃ (y : Lp) (A1 : Option Addr) (c1 : Nat) (A2 : Option Addr) (c2 : Nat), cs = [.bool y.neg, .int .i64 y.l.fn, .slice A1 y.l.args.length c1, .int .i64 y.r.fn, .slice A2 y.r.args.length c2] ∧ I64 y.l.fn ∧ I64 y.r.fn ∧ Args W W.heap.size A1 y.l.args ∧ Args W W.heap.size A2 y.r.args := by
  obtain ⟨xs, n', rfl, hx, hlen, hxs, hf⟩ := DataW.trod_struct Tryd.underlying49 h
  rw [cellsLitP] at hlen
  match cs, hlen with
  | [c0, c1, c2, c3, c4], _ =>
    have hx2 : xs.length = 3 := by rw [hxs]; rfl
    match xs, hx2 with
    | [x0, x1, x2], _ =>
      have g0 := hf 0 _ rfl
      have g1 := hf 1 _ rfl
      have g2 := hf 2 _ rfl
      simp [cellsBoolP] at g0
      simp [cellsTerm] at g1
      simp [cellsTerm] at g2
      obtain ⟨b, hbv, eb⟩ := DataW.trod_bool Tryd.underlying4 g0
      injection hbv with hbv
      subst hbv
      obtain ⟨t, A, c, hcs, ht64, hA, _⟩ := trod_term _ _ _ g1
      injection hcs with e1 hcs
      injection hcs with e2 _
      subst e1; subst e2
      obtain ⟨t2, A2, c2, hcs2, ht642, hA2, _⟩ := trod_term _ _ _ g2
      injection hcs2 with e3 hcs2
      injection hcs2 with e4 _
      subst e3; subst e4
      exact ⟨⟨b, t, t2⟩, A, c, A2, c2, rfl, ht64, ht642, hA, hA2⟩

theorem bulkP_length : ∀ ds : List (DataW H), ds.length ≤ Rows.uptoBulkAll ds := fun ds => bulk_length ds

theorem trodP_clause (n : Nat) (cs : List Value) (x : DataW H × List MemPlace) (h : DataW.trod enc Tryd.prog W base (fun _ => true) held n 39 cs = some x) :
    ∃ (l : List Lp) (A : Option Addr) (c : Nat), cs = [.slice A l.length c] ∧ LpRow W (· < W.heap.size) A l ∧ l.length ≤ Rows.uptoBulk x.1 := by
  rcases DataW.trod_slice Tryd.underlying39 h with ⟨hv, e1⟩ | ⟨a, len0, cap0, elems, rest, m, hm, hv, e1, _, hl, hmax, hlenE, hel, _, _⟩
  · exact ⟨[], none, 0, hv, ⟨by simp, fun h => by simp at h⟩, Nat.zero_le _⟩
  · have hb : len0 ≤ Rows.uptoBulk x.1 := by
      rw [e1]
      have h1 := bulkP_length (elems.map (·.1))
      rw [List.length_map] at h1
      simp only [Rows.uptoBulk]
      omega
    have each : ∀ i, i < len0 → ∃ q : Lp × (Option Addr × Nat) × (Option Addr × Nat), W.cell? (a.add (i * 5)) = some (.bool q.1.neg) ∧ W.cell? ((a.add (i * 5)).add 1) = some (.int .i64 q.1.l.fn) ∧ W.cell? ((a.add (i * 5)).add 2) = some (.slice q.2.1.1 q.1.l.args.length q.2.1.2) ∧ W.cell? ((a.add (i * 5)).add 3) = some (.int .i64 q.1.r.fn) ∧ W.cell? ((a.add (i * 5)).add 4) = some (.slice q.2.2.1 q.1.r.args.length q.2.2.2) ∧ I64 q.1.l.fn ∧ I64 q.1.r.fn ∧ Args W W.heap.size q.2.1.1 q.1.l.args ∧ Args W W.heap.size q.2.2.1 q.1.r.args := by
      intro i hi
      have h1 := hel i hi
      rw [cellsLitP] at h1
      rw [List.getElem?_eq_getElem (by omega)] at h1
      cases hc : W.cells? base (a.add (i * 5)) 5 with
      | none => rw [hc] at h1; cases h1
      | some cs' =>
        rw [hc] at h1
        simp only [Option.bind_some] at h1
        obtain ⟨y, A1, c1, A2, c2, rfl, h64, h64', hA1, hA2⟩ := trodP_lit _ cs' _ h1
        obtain ⟨_, _, hat⟩ := World.cells?_some hc
        refine ⟨(y, (A1, c1), (A2, c2)), ?_, hat 1 (by omega), hat 2 (by omega), hat 3 (by omega), hat 4 (by omega), h64, h64', hA1, hA2⟩
        have := hat 0 (by omega)
        simpa [Addr.add] using this
    haveI : Inhabited (Lp × (Option Addr × Nat) × (Option Addr × Nat)) := ⟨(⟨false, .node 0 [], .node 0 []⟩, (none, 0), (none, 0))⟩
    obtain ⟨q, hq⟩ := Go.Deep.choose_lt each
    have hget : ∀ (i : Nat) (t : Lp), ((List.range len0).map fun i => (q i).1)[i]? = some t → i < len0 ∧ t = (q i).1 := by
      intro i t e
      have hi : i < len0 := by have := (List.getElem?_eq_some_iff.1 e).1; simpa using this
      rw [List.getElem?_map, List.getElem?_range hi] at e
      simp at e
      exact ⟨hi, e.symm⟩
    refine ⟨(List.range len0).map fun i => (q i).1, some a, cap0, by rw [hv]; simp, ⟨by unfold maxLen at hmax; simp; omega, fun hp => ?_⟩, by simpa using hb⟩
    have h0 : 0 < len0 := by simpa using hp
    have c00 := (hq 0 h0).1
    simp only [Nat.zero_mul, Addr.add, if_true] at c00
    obtain ⟨blk, off, spot⟩ := a
    obtain rfl : spot = none := cell_spot c00
    refine ⟨blk, off, rfl, World.block_lt_of_cell? W _ c00, fun i t e => ?_⟩
    obtain ⟨hi, rfl⟩ := hget i t e
    obtain ⟨h3, h4, h5, h6, h7, h1, h2, h8, h9⟩ := hq i hi
    rw [Addr.add_lit] at h3
    rw [Addr.add_lit, Addr.add_lit] at h4 h5 h6 h7
    exact ⟨(q i).2.1.1, (q i).2.1.2, (q i).2.2.1, (q i).2.2.2, h3, h4, h5, h6, h7, h1, h2, h8.toN, h9.toN⟩

theorem itmL_two : ∀ l : List Lp, (itmL l).length ≤ 2 * l.length
  | [] => by simp [itmL]
  | x :: l => by
    have := itmL_two l
    unfold itmL at *
    rw [List.flatMap_cons, List.length_append, List.length_cons]
    have : (itm x).length ≤ 2 := by unfold itm; split <;> simp
    omega

theorem itms_two : ∀ (cl : List (List Lp)) (ds : List (DataW H)), cl.length = ds.length → (∀ (i : Nat) (l : List Lp) (d : DataW H), cl[i]? = some l → ds[i]? = some d → l.length ≤ Rows.uptoBulk d) → (itms cl).length ≤ 2 * Rows.uptoBulkAll ds
  | [], [], _, _ => by simp [itms]
  | [], _ :: _, h, _ => by simp at h
  | _ :: _, [], h, _ => by simp at h
  | l :: cl, d :: ds, h, hh => by
    have h1 := hh 0 l d rfl rfl
    have h2 := itms_two cl ds (by simpa using h) fun i t' d' e1 e2 => hh (i + 1) t' d' (by simpa using e1) (by simpa using e2)
    have h3 := itmL_two l
    unfold itms at *
    rw [List.flatMap_cons, List.length_append]
    simp only [Rows.uptoBulkAll]
    omega

/-- Clauses that are an argument. -/
theorem open_clauses {r : Reach} {b0 : Nat} {v : Value} {d : DataW H} {ps : List MemPlace} (hv : Value.okWide Tryd.prog W r b0 30 v) (h : DataW.Trod enc Tryd.prog W base (fun _ => true) held 30 v d ps) :
    ∃ (cl : List (List Lp)) (A : Option Addr) (c : Nat), v = .slice A cl.length c ∧ ClRow W (· < W.heap.size) A cl ∧ (itms cl).length ≤ 2 * Rows.uptoBulk d := by
  obtain ⟨a0, len0, cap0, rfl⟩ := okWide_slice Tryd.underlying30 hv
  obtain ⟨fuel, hf⟩ := h
  have hf' : DataW.trod enc Tryd.prog W base (fun _ => true) held fuel 30 [.slice a0 len0 cap0] = some (d, ps) := hf
  rcases DataW.trod_slice Tryd.underlying30 hf' with ⟨hv, e1⟩ | ⟨a, len, cap, elems, rest, m, hm, hv, e1, _, hl, hmax, hlenE, hel, _, _⟩
  · injection hv with hv
    injection hv with e2 e3 e4
    subst e2; subst e3; subst e4
    exact ⟨[], none, 0, rfl, ⟨by simp, fun h => by simp at h⟩, by simp [itms]⟩
  · injection hv with hv
    injection hv with e2 e3 e4
    subst e2; subst e3; subst e4
    have each : ∀ i, i < len0 → ∃ q : List Lp × Option Addr × Nat, W.cell? (a.add i) = some (.slice q.2.1 q.1.length q.2.2) ∧ LpRow W (· < W.heap.size) q.2.1 q.1 ∧ ∀ z, elems[i]? = some z → q.1.length ≤ Rows.uptoBulk z.1 := by
      intro i hi
      have h1 := hel i hi
      rw [cellsClauseP, Nat.mul_one] at h1
      rw [List.getElem?_eq_getElem (by omega)] at h1
      cases hc : W.cells? base (a.add i) 1 with
      | none => rw [hc] at h1; cases h1
      | some cs' =>
        rw [hc] at h1
        simp only [Option.bind_some] at h1
        obtain ⟨l, A1, c1, rfl, hL, hb⟩ := trodP_clause _ cs' _ h1
        obtain ⟨_, _, hat⟩ := World.cells?_some hc
        refine ⟨(l, A1, c1), ?_, hL, fun z hz => ?_⟩
        · have := hat 0 (by omega)
          simpa [Addr.add] using this
        · rw [List.getElem?_eq_getElem (by omega)] at hz
          obtain rfl := Option.some.inj hz
          exact hb
    haveI : Inhabited (List Lp × Option Addr × Nat) := ⟨([], none, 0)⟩
    obtain ⟨q, hq⟩ := Go.Deep.choose_lt each
    have hget : ∀ (i : Nat) (t : List Lp), ((List.range len0).map fun i => (q i).1)[i]? = some t → i < len0 ∧ t = (q i).1 := by
      intro i t e
      have hi : i < len0 := by have := (List.getElem?_eq_some_iff.1 e).1; simpa using this
      rw [List.getElem?_map, List.getElem?_range hi] at e
      simp at e
      exact ⟨hi, e.symm⟩
    refine ⟨(List.range len0).map fun i => (q i).1, some a, cap0, by simp, ⟨by unfold maxLen at hmax; simp; omega, fun hp => ?_⟩, ?_⟩
    · have h0 : 0 < len0 := by simpa using hp
      have c00 := (hq 0 h0).1
      simp only [Addr.add, if_true] at c00
      obtain ⟨blk, off, spot⟩ := a
      obtain rfl : spot = none := cell_spot c00
      refine ⟨blk, off, rfl, World.block_lt_of_cell? W _ c00, fun i t e => ?_⟩
      obtain ⟨hi, rfl⟩ := hget i t e
      obtain ⟨h3, h4, _⟩ := hq i hi
      rw [Addr.add_lit] at h3
      exact ⟨(q i).2.1, (q i).2.2, h3, h4⟩
    · have h9 := itms_two ((List.range len0).map fun i => (q i).1) (elems.map (·.1)) (by simp; omega) fun i l z e1 e2 => by
        obtain ⟨hi, rfl⟩ := hget i l e1
        rw [List.getElem?_map] at e2
        cases he : elems[i]? with
        | none => rw [he] at e2; cases e2
        | some y =>
          rw [he] at e2
          simp only [Option.map_some] at e2
          obtain rfl := Option.some.inj e2
          exact (hq i hi).2.2 y he
      have e5 := congrArg (fun z => Rows.uptoBulk z.1) e1
      simp only [Rows.uptoBulk] at e5
      omega

/-- A way that is an argument. -/
theorem open_way {r : Reach} {b0 : Nat} {v : Value} {d : DataW H} {ps : List MemPlace} (hv : Value.okWide Tryd.prog W r b0 34 v) (h : DataW.Trod enc Tryd.prog W base (fun _ => true) held 34 v d ps) :
    ∃ (lpo top : Bool) (b wb : Int), v = .agg #[.bool lpo, .int .i64 b, .int .i64 wb, .bool top] := by
  obtain ⟨cs, rfl, _⟩ := okWide_struct Tryd.underlying34 hv
  obtain ⟨fuel, hf⟩ := h
  have hf' : DataW.trod enc Tryd.prog W base (fun _ => true) held fuel 34 cs.toList = some (d, ps) := hf
  obtain ⟨xs, n', _, hx, hlen, hxs, hg⟩ := DataW.trod_struct Tryd.underlying34 hf'
  have cw : Tryd.prog.cellsOf 34 = 4 := by kernel_rfl
  rw [cw] at hlen
  obtain ⟨l, hl⟩ : ∃ l, cs.toList = l := ⟨_, rfl⟩
  rw [hl] at hlen hg
  match l, hlen, hl with
  | [c0, c1, c2, c3], _, hl =>
    have hx2 : xs.length = 4 := by rw [hxs]; rfl
    match xs, hx2 with
    | [x0, x1, x2, x3], _ =>
      have g0 := hg 0 _ rfl
      have g1 := hg 1 _ rfl
      have g2 := hg 2 _ rfl
      have g3 := hg 3 _ rfl
      simp [cellsBoolP] at g0
      simp [cellsPrecByP] at g1
      simp [cellsWeightByP] at g2
      simp [cellsBoolP] at g3
      obtain ⟨b, hbv, _⟩ := DataW.trod_bool Tryd.underlying4 g0
      injection hbv with hbv
      subst hbv
      obtain ⟨f, hfv, _, hw⟩ := DataW.trod_int Tryd.underlying31 g1
      injection hfv with hfv
      subst hfv
      obtain ⟨g, hgv, _, hw2⟩ := DataW.trod_int Tryd.underlying32 g2
      injection hgv with hgv
      subst hgv
      obtain ⟨b3, hbv3, _⟩ := DataW.trod_bool Tryd.underlying4 g3
      injection hbv3 with hbv3
      subst hbv3
      exact ⟨b, b3, f, g, by rw [show cs = #[.bool b, .int .i64 f, .int .i64 g, .bool b3] from Array.toList_inj.1 (by rw [hl])]⟩

end

end Go.Proofs.YtfnncphkidhbpaaDoor

/- Clauses that are an argument, opened, with how many literals may stand in them. -/

namespace Go.Proofs.YtfnncphkidhbpaaDoor

open Go.ChangeShapes Go.WideShapes Go.ChangeAt Go.RowKit
set_option maxRecDepth 20000

section

variable {H : Type} {enc : TypeId × Value → H} {W : World} {base : Nat} {held : Bool}

theorem bytesLitP : Tryd.prog.bytesOf 49 = 72 := by kernel_rfl

theorem weightsAll_in {P : Program} {e : TypeId} {x : Nat} : ∀ {ds : List (DataW H)} {d : DataW H}, d ∈ ds → x ∈ d.weights P e → x ∈ DataW.weightsAll P e ds
  | [], _, h, _ => by cases h
  | y :: r, d, h, hx => by
    simp only [DataW.weightsAll, List.mem_append]
    rcases List.mem_cons.1 h with rfl | h'
    · exact .inl hx
    · exact .inr (weightsAll_in h' hx)

theorem itms_each : ∀ (cl : List (List Lp)) (m : Nat), (∀ lc ∈ cl, lc.length ≤ m) → (itms cl).length ≤ 2 * (cl.length * m)
  | [], _, _ => by simp [itms]
  | l :: cl, m, h => by
    have h1 := h l (List.mem_cons_self ..)
    have h2 := itms_each cl m fun lc hl => h lc (List.mem_cons_of_mem _ hl)
    have h3 := itmL_two l
    unfold itms at *
    rw [List.flatMap_cons, List.length_append, List.length_cons, Nat.add_mul, Nat.one_mul]
    omega

theorem trodW_clause (n : Nat) (cs : List Value) (x : DataW H × List MemPlace) (h : DataW.trod enc Tryd.prog W base (fun _ => true) held n 39 cs = some x) :
    ∃ (l : List Lp) (A : Option Addr) (c : Nat), cs = [.slice A l.length c] ∧ LpRow W (· < W.heap.size) A l ∧ (l = [] ∨ ∃ e2 s2, x.1 = .slice e2 s2 ∧ e2.length = l.length) := by
  rcases DataW.trod_slice Tryd.underlying39 h with ⟨hv, e1⟩ | ⟨a, len0, cap0, elems, rest, m, hm, hv, e1, _, hl, hmax, hlenE, hel, _, _⟩
  · exact ⟨[], none, 0, hv, ⟨by simp, fun h => by simp at h⟩, .inl rfl⟩
  · have hb : ∃ e2 s2, x.1 = .slice e2 s2 ∧ e2.length = len0 := ⟨elems.map (·.1), rest.map (·.1), congrArg (·.1) e1, by rw [List.length_map]; exact hlenE⟩
    have each : ∀ i, i < len0 → ∃ q : Lp × (Option Addr × Nat) × (Option Addr × Nat), W.cell? (a.add (i * 5)) = some (.bool q.1.neg) ∧ W.cell? ((a.add (i * 5)).add 1) = some (.int .i64 q.1.l.fn) ∧ W.cell? ((a.add (i * 5)).add 2) = some (.slice q.2.1.1 q.1.l.args.length q.2.1.2) ∧ W.cell? ((a.add (i * 5)).add 3) = some (.int .i64 q.1.r.fn) ∧ W.cell? ((a.add (i * 5)).add 4) = some (.slice q.2.2.1 q.1.r.args.length q.2.2.2) ∧ I64 q.1.l.fn ∧ I64 q.1.r.fn ∧ Args W W.heap.size q.2.1.1 q.1.l.args ∧ Args W W.heap.size q.2.2.1 q.1.r.args := by
      intro i hi
      have h1 := hel i hi
      rw [cellsLitP] at h1
      rw [List.getElem?_eq_getElem (by omega)] at h1
      cases hc : W.cells? base (a.add (i * 5)) 5 with
      | none => rw [hc] at h1; cases h1
      | some cs' =>
        rw [hc] at h1
        simp only [Option.bind_some] at h1
        obtain ⟨y, A1, c1, A2, c2, rfl, h64, h64', hA1, hA2⟩ := trodP_lit _ cs' _ h1
        obtain ⟨_, _, hat⟩ := World.cells?_some hc
        refine ⟨(y, (A1, c1), (A2, c2)), ?_, hat 1 (by omega), hat 2 (by omega), hat 3 (by omega), hat 4 (by omega), h64, h64', hA1, hA2⟩
        have := hat 0 (by omega)
        simpa [Addr.add] using this
    haveI : Inhabited (Lp × (Option Addr × Nat) × (Option Addr × Nat)) := ⟨(⟨false, .node 0 [], .node 0 []⟩, (none, 0), (none, 0))⟩
    obtain ⟨q, hq⟩ := Go.Deep.choose_lt each
    have hget : ∀ (i : Nat) (t : Lp), ((List.range len0).map fun i => (q i).1)[i]? = some t → i < len0 ∧ t = (q i).1 := by
      intro i t e
      have hi : i < len0 := by have := (List.getElem?_eq_some_iff.1 e).1; simpa using this
      rw [List.getElem?_map, List.getElem?_range hi] at e
      simp at e
      exact ⟨hi, e.symm⟩
    refine ⟨(List.range len0).map fun i => (q i).1, some a, cap0, by rw [hv]; simp, ⟨by unfold maxLen at hmax; simp; omega, fun hp => ?_⟩, .inr (by simpa using hb)⟩
    have h0 : 0 < len0 := by simpa using hp
    have c00 := (hq 0 h0).1
    simp only [Nat.zero_mul, Addr.add, if_true] at c00
    obtain ⟨blk, off, spot⟩ := a
    obtain rfl : spot = none := cell_spot c00
    refine ⟨blk, off, rfl, World.block_lt_of_cell? W _ c00, fun i t e => ?_⟩
    obtain ⟨hi, rfl⟩ := hget i t e
    obtain ⟨h3, h4, h5, h6, h7, h1, h2, h8, h9⟩ := hq i hi
    rw [Addr.add_lit] at h3
    rw [Addr.add_lit, Addr.add_lit] at h4 h5 h6 h7
    exact ⟨(q i).2.1.1, (q i).2.1.2, (q i).2.2.1, (q i).2.2.2, h3, h4, h5, h6, h7, h1, h2, h8.toN, h9.toN⟩

/-- Clauses that are an argument. -/
theorem open_clausesW {ts : List TypeId} {ds : List (DataW H)} {r : Reach} {b0 : Nat} {v : Value} {d : DataW H} {ps : List MemPlace} (hsz : (DataW.weightsEach Tryd.prog ts ds).all (· ≤ reachBytes) = true) {j : Nat} (ht : ts[j]? = some 30) (hd : ds[j]? = some d) (hv : Value.okWide Tryd.prog W r b0 30 v) (h : DataW.Trod enc Tryd.prog W base (fun _ => true) held 30 v d ps) :
    ∃ (cl : List (List Lp)) (A : Option Addr) (c : Nat), v = .slice A cl.length c ∧ ClRow W (· < W.heap.size) A cl ∧ (cl.length ≤ 60 → (itms cl).length ≤ 281474976710656) := by
  obtain ⟨a0, len0, cap0, rfl⟩ := okWide_slice Tryd.underlying30 hv
  obtain ⟨fuel, hf⟩ := h
  have hf' : DataW.trod enc Tryd.prog W base (fun _ => true) held fuel 30 [.slice a0 len0 cap0] = some (d, ps) := hf
  rcases DataW.trod_slice Tryd.underlying30 hf' with ⟨hv, e1⟩ | ⟨a, len, cap, elems, rest, m, hm, hv, e1, _, hl, hmax, hlenE, hel, _, _⟩
  · injection hv with hv
    injection hv with e2 e3 e4
    subst e2; subst e3; subst e4
    exact ⟨[], none, 0, rfl, ⟨by simp, fun h => by simp at h⟩, fun _ => by simp [itms]⟩
  · injection hv with hv
    injection hv with e2 e3 e4
    subst e2; subst e3; subst e4
    have each : ∀ i, i < len0 → ∃ q : List Lp × Option Addr × Nat, W.cell? (a.add i) = some (.slice q.2.1 q.1.length q.2.2) ∧ LpRow W (· < W.heap.size) q.2.1 q.1 ∧ ∀ z, elems[i]? = some z → q.1 = [] ∨ ∃ e2 s2, z.1 = .slice e2 s2 ∧ e2.length = q.1.length := by
      intro i hi
      have h1 := hel i hi
      rw [cellsClauseP, Nat.mul_one] at h1
      rw [List.getElem?_eq_getElem (by omega)] at h1
      cases hc : W.cells? base (a.add i) 1 with
      | none => rw [hc] at h1; cases h1
      | some cs' =>
        rw [hc] at h1
        simp only [Option.bind_some] at h1
        obtain ⟨l, A1, c1, rfl, hL, hb⟩ := trodW_clause _ cs' _ h1
        obtain ⟨_, _, hat⟩ := World.cells?_some hc
        refine ⟨(l, A1, c1), ?_, hL, fun z hz => ?_⟩
        · have := hat 0 (by omega)
          simpa [Addr.add] using this
        · rw [List.getElem?_eq_getElem (by omega)] at hz
          obtain rfl := Option.some.inj hz
          exact hb
    haveI : Inhabited (List Lp × Option Addr × Nat) := ⟨([], none, 0)⟩
    obtain ⟨q, hq⟩ := Go.Deep.choose_lt each
    have hget : ∀ (i : Nat) (t : List Lp), ((List.range len0).map fun i => (q i).1)[i]? = some t → i < len0 ∧ t = (q i).1 := by
      intro i t e
      have hi : i < len0 := by have := (List.getElem?_eq_some_iff.1 e).1; simpa using this
      rw [List.getElem?_map, List.getElem?_range hi] at e
      simp at e
      exact ⟨hi, e.symm⟩
    refine ⟨(List.range len0).map fun i => (q i).1, some a, cap0, by simp, ⟨by unfold maxLen at hmax; simp; omega, fun hp => ?_⟩, ?_⟩
    · have h0 : 0 < len0 := by simpa using hp
      have c00 := (hq 0 h0).1
      simp only [Addr.add, if_true] at c00
      obtain ⟨blk, off, spot⟩ := a
      obtain rfl : spot = none := cell_spot c00
      refine ⟨blk, off, rfl, World.block_lt_of_cell? W _ c00, fun i t e => ?_⟩
      obtain ⟨hi, rfl⟩ := hget i t e
      obtain ⟨h3, h4, _⟩ := hq i hi
      rw [Addr.add_lit] at h3
      exact ⟨(q i).2.1, (q i).2.2, h3, h4⟩
    · intro h60
      have hm : ∀ lc ∈ (List.range len0).map fun i => (q i).1, lc.length ≤ 1954687338211 := by
        intro lc hlc
        obtain ⟨i, hi, rfl⟩ := List.getElem_of_mem hlc
        obtain ⟨hi2, e2⟩ := hget i _ (List.getElem?_eq_getElem hi)
        rw [e2]
        have hz := List.getElem?_eq_getElem (l := elems) (i := i) (by omega)
        rcases (hq i hi2).2.2 _ hz with h0 | ⟨e5, s5, h5, h6⟩
        · rw [h0]; exact Nat.zero_le _
        · have hw := DataW.weights_mem_each (P := Tryd.prog) ht hd ((e5.length + s5.length) * Tryd.prog.bytesOf 49) (by
            have e7 : d = .slice (elems.map (·.1)) (rest.map (·.1)) := congrArg (·.1) e1
            rw [e7]
            simp only [DataW.weights, Tryd.underlying30]
            refine List.mem_cons_of_mem _ (List.mem_append_left _ ?_)
            refine weightsAll_in (List.mem_map.2 ⟨_, List.mem_of_getElem? hz, rfl⟩) ?_
            rw [h5]
            simp [DataW.weights, Tryd.underlying39])
          have := List.all_eq_true.1 hsz _ hw
          rw [bytesLitP] at this
          have h2 : (e5.length + s5.length) * 72 ≤ reachBytes := of_decide_eq_true this
          have h3 : reachBytes = 140737488351232 := by decide +kernel
          omega
      have := itms_each _ _ hm
      simp only [List.length_map, List.length_range] at this h60 ⊢
      have h9 : len0 * 1954687338211 ≤ 60 * 1954687338211 := Nat.mul_le_mul_right _ h60
      omega

end

end Go.Proofs.YtfnncphkidhbpaaDoor

/- A law's last step, whatever its arguments: it answered true, and below the heap's old size nothing has turned. -/

namespace Go.Proofs.YtfnncphkidhbpaaDoor

open Go.ChangeShapes Go.WideShapes Go.ChangeAt Go.RowKit

section

variable {H : Type} {enc : TypeId × Value → H} {P : Program}

theorem trodAll_later (hl : laidOutB P = true) {W W' : World} (hb : Below W.heap.size W W') : ∀ {ts : List TypeId} {vs : List Value} {ds : List (DataW H)} {ps : List MemPlace},
    (ts.all fun t => P.readableRec t && decide (t < P.types.size)) = true → (∀ x ∈ ps, x.block < W.heap.size) → DataW.TrodAll enc P W 0 (fun _ => true) true ts vs ds ps → DataW.TrodAll enc P W' 0 (fun b => decide (b < W.heap.size)) true ts vs ds ps
  | [], [], [], _, _, _, h => h
  | [], [], _ :: _, _, _, _, h => h.elim
  | [], _ :: _, _, _, _, _, h => h.elim
  | _ :: _, [], _, _, _, _, h => h.elim
  | _ :: _, _ :: _, [], _, _, _, h => h.elim
  | t :: ts, v :: vs, d :: ds, ps, hr, hlt, h => by
    obtain ⟨p, q, h1, h2, rfl⟩ := h
    simp only [List.all_cons, Bool.and_eq_true, decide_eq_true_eq] at hr
    exact ⟨p, q, Below.trod hl hr.1.1 hr.1.2 h1 hb (fun x hx => hlt x (List.mem_append_left _ hx)), trodAll_later hl hb hr.2 (fun x hx => hlt x (List.mem_append_right _ hx)) h2, rfl⟩

theorem law_post (hl : laidOutB P = true) {f : Func} {s : ChangeSpec} {tb : TypeId} (hv : s.vars = []) (hrt : f.resultTypes = #[tb]) (htb : P.underlying tb = some .bool)
    (hread : (f.params.toList.all fun t => P.readableRec t && decide (t < P.types.size)) = true) {W W' : World} {args : Array Value} {ds gs : List (DataW H)} {before : List MemPlace}
    (hW : DataW.Whole enc P f.params.toList s.vars false W args.toList ds gs before) (hfn : s.fn H (ds ++ gs) = { results := [.lit (.bool true)], args := ds }) (hb : Below W.heap.size W W') :
    s.post enc P f false true false false W args (.bool true) W' := by
  have hlt := hW.lt
  have hW' := hW
  obtain ⟨p, q, hA, hV, rfl, hfz, _⟩ := hW'
  have hV' : gs = [] ∧ q = [] := by
    rw [hv] at hV
    cases gs with
    | nil => exact ⟨rfl, hV⟩
    | cons _ _ => exact hV.elim
  obtain ⟨rfl, rfl⟩ := hV'
  have hold : ∀ x ∈ p, x.block < W.heap.size := fun x hx => hlt x (by simp [hx])
  refine ⟨ds, [], p ++ [], [], p, [], hW, ?_, ?_, ?_, World.keptBut_mono (fun x hx => ⟨hx, ?_⟩) (hb.frame (· ∈ p ++ [])), fun h => by cases h⟩
  · rw [hfn, hrt]
    exact trodAll_mk1 (shut_bool htb _)
  · rw [hfn]
    exact trodAll_later hl hb hread hold hA
  · rw [hfn, hv]
    rfl
  · rw [List.append_nil] at hx
    exact .inr (.inl hx)

end

end Go.Proofs.YtfnncphkidhbpaaDoor

/- What the rows' list of variables gives a walk: $true's cells. -/

namespace Go.Proofs.YtfnncphkidhbpaaDoor

open Go.ChangeShapes Go.WideShapes Go.ChangeAt Go.RowKit

theorem own : ownKnob Tryd.prog.godebug = none := by kernel_rfl

theorem gTruth : Tryd.prog.globalNamed "syllogism/sign.truth" = some 0 := by kernel_rfl

theorem gTruthType : (Tryd.prog.globals[0]?).map (·.type) = some 62 := by kernel_rfl

theorem cell_spot' {W : World} {b o : Nat} {v : Value} (h : W.cell? ⟨b, o, none⟩ = some v) : b < W.heap.size := by
  unfold World.cell? at h
  rcases Nat.lt_or_ge b W.heap.size with h1 | h1
  · exact h1
  · simp [Array.getElem?_eq_none h1] at h

/-- WHAT THE ROW's LIST GIVES: $true's cells. -/
theorem tru_of_laid {W : World} {rest : List (String × DataW Unit)} (h : laidMet Tryd.prog (("syllogism/sign.truth", Rows.laid_syllogism_sign_truth) :: rest) W) : tru W := by
  obtain ⟨ps, ⟨g', t', cs, fuel, p, q, hg', ht', hvar, hd, _, _⟩, _⟩ := h
  obtain rfl := Option.some.inj (gTruth.symm.trans hg')
  obtain rfl := Option.some.inj (gTruthType.symm.trans ht')
  obtain ⟨s, hcs, _, hx⟩ := trod_sym hd
  have hs : s = truthSm := by
    obtain ⟨a, b, c⟩ := s
    simp [Rows.laid_syllogism_sign_truth] at hx
    obtain ⟨h1, rfl, rfl⟩ := hx
    have : a = truthS := ByteArray.ext (Array.toList_inj.1 h1.symm)
    rw [this]
    rfl
  subst hs
  have hc0 := World.var?_cell hg' hvar 0
  have hc1 := World.var?_cell hg' hvar 1
  have hc2 := World.var?_cell hg' hvar 2
  obtain ⟨cl⟩ := cs
  simp only at hcs
  subst hcs
  refine ⟨hc0, hc1, hc2, ?_⟩
  have := cell_spot' hc0
  exact this

end Go.Proofs.YtfnncphkidhbpaaDoor

/- Laid variables further down a row's list; a symbol that is an argument. -/

namespace Go.Proofs.YtfnncphkidhbpaaDoor

open Go.ChangeShapes Go.WideShapes Go.ChangeAt Go.RowKit
set_option maxRecDepth 20000

theorem laid_tail {P : Program} {nd : String × DataW Unit} {rest : List (String × DataW Unit)} {W : World} (h : laidMet P (nd :: rest) W) : laidMet P rest W := by
  obtain ⟨ps, ⟨g, t, cs, fuel, p, q, _, _, _, _, hq, rfl⟩, hnd, hall⟩ := h
  exact ⟨q, hq, (List.nodup_append.1 hnd).2.1, fun b off hm => hall b off (List.mem_append.2 (.inr hm))⟩

variable {H : Type} {enc : TypeId × Value → H} {W : World} {base : Nat} {held : Bool}

/-- A symbol that is an argument. -/
theorem open_sym {r : Reach} {b0 : Nat} {v : Value} {d : DataW H} {ps : List MemPlace} (hv : Value.okWide Tryd.prog W r b0 62 v) (h : DataW.Trod enc Tryd.prog W base (fun _ => true) held 62 v d ps) :
    ∃ s : Sm, v = .agg #[.string s.name, .int .i64 s.arity, .bool s.pred] ∧ s.Ok := by
  obtain ⟨cs, rfl, _⟩ := okWide_struct Tryd.underlying62 hv
  obtain ⟨fuel, hf⟩ := h
  obtain ⟨s, hcs, hok, _⟩ := trod_sym hf
  refine ⟨s, ?_, hok⟩
  have hcs' : cs.toList = [.string s.name, .int .i64 s.arity, .bool s.pred] := hcs
  rw [show cs = #[.string s.name, .int .i64 s.arity, .bool s.pred] from Array.toList_inj.1 (by rw [hcs'])]

end Go.Proofs.YtfnncphkidhbpaaDoor

