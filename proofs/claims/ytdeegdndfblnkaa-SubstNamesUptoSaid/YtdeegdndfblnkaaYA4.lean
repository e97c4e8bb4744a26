/- Normal's change of a term; a literal's sides changed, whatever changes them. A row of literals that is made member by member; each, at literals; literals; Normal's literals. each, at literals; literals. literals. Normal's change of a clause. -/
import Derived.Test.YtdeegdndfblnkaaYA1
namespace Go.Proofs.Ytdeegdndfblnkaa
open Go.RowKit Go.Shelf
set_option maxRecDepth 100000

section
variable {σ : Type} {V : Int → Prop} {nx : σ → Int → σ × Int} {kn : FuncId} {nc : Array Value} {C D N : Nat → Prop} {I : σ → World → Prop} {B0 : Nat}
set_option maxHeartbeats 1000000 in
theorem normal2_any (hN : NumV V nx kn nc C D N I B0) (t : Tm) (hsz : t.size ≤ 4398046511104) (s : σ) (A : Option Addr) (c bx : Nat) (W : World) (hB0 : B0 ≤ W.heap.size) (hb : Boxed W bx 94 (.func (.func kn) #[] nc)) (hs : I s W) (hf : I64 t.fn) (hV : VT V t) (hA : ArgsN W N A t.args) :
    Calls Try.prog 62 #[.agg #[.int .i64 t.fn, .slice A t.args.length c], .pointer (some ⟨bx, 0, none⟩)] W (RenPost C I (renT nx s t) W) := by
  obtain ⟨q0, q1⟩ := heap2 W (.cells #[.int .i64 t.fn, .slice A t.args.length c] 31) (.cells #[.int .i64 0, .slice none 0 0] 31)
  obtain ⟨W2, hW2⟩ : ∃ W2, ((W.alloc (.cells #[.int .i64 t.fn, .slice A t.args.length c] 31)).alloc (.cells #[.int .i64 0, .slice none 0 0] 31)) = W2 := ⟨_, rfl⟩
  have hB : Below W.heap.size W W2 := by rw [← hW2]; exact ((Below.refl _ _).alloc (Nat.le_refl _) _).alloc (by simp) _
  rw [hW2] at q0 q1
  have hWs : W.heap.size + 1 < W2.heap.size := (Array.getElem?_eq_some_iff.1 q1).1
  have hcb := Boxed.cell (show Boxed W2 bx _ _ from (hB.block _ hb.lt).trans hb)
  have hrec' := Lib.hid (renameV_any hN t hsz s A c W2 (by omega) (hN.stay s W W2 hs ((Keeps.of_below hB).mono fun g e => by have := hN.db g e; show g < W.heap.size; omega)) hf hV (hA.keep fun g e => hB.block g (by have := hN.nb g e; omega)))
  have HW := Lib.hid hW2
  have HN := Lib.hid hN
  obtain ⟨a0, a1, _, _⟩ := cells_two q0
  clear hW2 hA hs hN
  go_enter Try.func62, Try.ntmps62
  go_upto_region 1 with fail
  rw [HW.out]
  go_wp2_with (first
    | (go_at_call 63; refine hrec'.out.mono ?_; go_must (rintro e w3 ⟨A3, c3, rfl, hi3, hO3, hI3, hk3⟩; have y3 := (hk3.block hWs (fun e => by have := HN.out.cb _ e; omega)).trans q1; obtain ⟨b0, b1, g0, g1⟩ := cells_two y3; have hO3 := Lib.hid hO3; have hI3 := Lib.hid hI3))
    | fail)
  obtain ⟨z0, z1⟩ := set2_two (u := .int .i64 (renT nx s t).2.fn) (v := .slice A3 (renT nx s t).2.args.length c3) y3
  have p0 := (cells_two z0).1
  have p1 := (cells_two z1).2.1
  have hoth : ∀ g, g ≠ W.heap.size + 1 → ((w3.setCell ⟨W.heap.size + 1, 0, none⟩ (.int .i64 (renT nx s t).2.fn)).setCell ⟨W.heap.size + 1, 1, none⟩ (.slice A3 (renT nx s t).2.args.length c3)).heap[g]? = w3.heap[g]? := fun g e => (heap_setCell_other _ _ _ _ e).trans (heap_setCell_other _ _ _ _ e)
  refine bodyPost_ret (v := .agg #[.int .i64 (renT nx s t).2.fn, .slice A3 (renT nx s t).2.args.length c3]) (by simp [results, Try.results62, go_sem, p0, p1]) rfl ⟨A3, c3, rfl, hi3, ?_, ?_, ?_⟩
  · exact OwnT.wide (lo := W2.heap.size) (hi := w3.heap.size) (hO3.out.keep fun g h1 _ => hoth g (by omega)) (by omega) (by simp)
  · exact HN.out.stay _ _ _ hI3.out ⟨rfl, rfl, rfl, by simp, fun g e => hoth g (by have := HN.out.db g e; omega)⟩
  · exact (((KeepsC.of_below hB).trans hk3).set (by show _ ≤ W.heap.size + 1; omega) _).set (by show _ ≤ W.heap.size + 1; omega) _

end

/-- A literal, in plain words. -/
structure Lt where
  neg : Bool
  l : Tm
  r : Tm
/-- What is asked of a function that changes terms. -/
structure ChgC {σ : Type} (V : Tm → Prop) (ch : σ → Tm → σ × Tm) (k : FuncId) (cv : Array Value) (C D N : Nat → Prop) (I : σ → World → Prop) (B0 : Nat) : Prop where
  ent : ∀ (args : Array Value) (w : World), (callFunc k args).run Try.prog w = .ok (.enter k args) w
  call : ∀ (s : σ) (t : Tm) (A : Option Addr) (c : Nat) (W : World), B0 ≤ W.heap.size → I s W → I64 t.fn → V t → ArgsN W N A t.args → Calls Try.prog k (#[.agg #[.int .i64 t.fn, .slice A t.args.length c]] ++ cv) W (RenPost C I (ch s t) W)
  stay : ∀ s W W', I s W → Keeps D W W' → I s W'
  cb : ∀ g, C g → g < B0
  db : ∀ g, D g → g < B0
  nb : ∀ g, N g → g < B0
  nc : ∀ g, N g → ¬ C g
/-- First the left side, then the right one. -/
def sidesL {σ : Type} (ch : σ → Tm → σ × Tm) (s : σ) (x : Lt) : σ × Lt := ((ch (ch s x.l).1 x.r).1, ⟨x.neg, (ch s x.l).2, (ch (ch s x.l).1 x.r).2⟩)
def SidesPost {σ : Type} (C : Nat → Prop) (I : σ → World → Prop) (r : σ × Lt) (w : World) (e : Ending) (w' : World) : Prop :=
  ∃ A1 c1 A2 c2, e = .returned (.agg #[.bool r.2.neg, .int .i64 r.2.l.fn, .slice A1 r.2.l.args.length c1, .int .i64 r.2.r.fn, .slice A2 r.2.r.args.length c2]) ∧ I64 r.2.l.fn ∧ I64 r.2.r.fn ∧
    OwnT w' w.heap.size w'.heap.size A1 r.2.l.args ∧ OwnT w' w.heap.size w'.heap.size A2 r.2.r.args ∧ I r.1 w' ∧ KeepsC C w w'
theorem cells_5 {W : World} {b : Nat} {x y z u v : Value} {t : TypeId} (h : W.heap[b]? = some (.cells #[x, y, z, u, v] t)) : W.cell? ⟨b, 0, none⟩ = some x ∧ W.cell? ⟨b, 1, none⟩ = some y ∧ W.cell? ⟨b, 2, none⟩ = some z ∧ W.cell? ⟨b, 3, none⟩ = some u ∧ W.cell? ⟨b, 4, none⟩ = some v := by
  refine ⟨?_, ?_, ?_, ?_, ?_⟩ <;> simp [World.cell?, h]
theorem frozen_5 {W : World} {b : Nat} {x y z u v : Value} {t : TypeId} (h : W.heap[b]? = some (.cells #[x, y, z, u, v] t)) : W.frozen? ⟨b, 0, none⟩ = false ∧ W.frozen? ⟨b, 1, none⟩ = false ∧ W.frozen? ⟨b, 2, none⟩ = false ∧ W.frozen? ⟨b, 3, none⟩ = false ∧ W.frozen? ⟨b, 4, none⟩ = false := by
  refine ⟨?_, ?_, ?_, ?_, ?_⟩ <;> simp [World.frozen?, h]

theorem set5 {W : World} {b : Nat} {x y z u v a1 a2 a3 a4 a5 : Value} {t : TypeId} (h : W.heap[b]? = some (.cells #[x, y, z, u, v] t)) :
    (((((W.setCell ⟨b, 0, none⟩ a1).setCell ⟨b, 1, none⟩ a2).setCell ⟨b, 2, none⟩ a3).setCell ⟨b, 3, none⟩ a4).setCell ⟨b, 4, none⟩ a5).heap[b]? = some (.cells #[a1, a2, a3, a4, a5] t) :=
  heap_setCell_same _ _ 4 _ _ _ (heap_setCell_same _ _ 3 _ _ _ (heap_setCell_same _ _ 2 _ _ _ (heap_setCell_same _ _ 1 _ _ _ (heap_setCell_same _ _ 0 _ _ _ h))))
theorem cell_set5 {W : World} {b b' o : Nat} {a1 a2 a3 a4 a5 x : Value} (h : W.cell? ⟨b, o, none⟩ = some x) (hb : b ≠ b') :
    (((((W.setCell ⟨b', 0, none⟩ a1).setCell ⟨b', 1, none⟩ a2).setCell ⟨b', 2, none⟩ a3).setCell ⟨b', 3, none⟩ a4).setCell ⟨b', 4, none⟩ a5).cell? ⟨b, o, none⟩ = some x := by
  have e : (((((W.setCell ⟨b', 0, none⟩ a1).setCell ⟨b', 1, none⟩ a2).setCell ⟨b', 2, none⟩ a3).setCell ⟨b', 3, none⟩ a4).setCell ⟨b', 4, none⟩ a5).heap[b]? = W.heap[b]? :=
    (heap_setCell_other _ _ _ _ hb).trans ((heap_setCell_other _ _ _ _ hb).trans ((heap_setCell_other _ _ _ _ hb).trans ((heap_setCell_other _ _ _ _ hb).trans (heap_setCell_other _ _ _ _ hb))))
  rw [← h]
  simp only [World.cell?, e]

section
variable {σ : Type} {V : Tm → Prop} {ch : σ → Tm → σ × Tm} {k : FuncId} {cv : Array Value} {C D N : Nat → Prop} {I : σ → World → Prop} {B0 : Nat}
set_option maxHeartbeats 1000000 in
theorem sides_any (hN : ChgC V ch k cv C D N I B0) (x : Lt) (s : σ) (A1 A2 : Option Addr) (c1 c2 : Nat) (w : World) (hB0 : B0 ≤ w.heap.size) (hs : I s w) (hl : I64 x.l.fn) (hr : I64 x.r.fn) (hVl : V x.l) (hVr : V x.r) (hA1 : ArgsN w N A1 x.l.args) (hA2 : ArgsN w N A2 x.r.args) :
    Calls Try.prog 56 #[.agg #[.bool x.neg, .int .i64 x.l.fn, .slice A1 x.l.args.length c1, .int .i64 x.r.fn, .slice A2 x.r.args.length c2], .func (.func k) #[] cv] w (SidesPost C I (sidesL ch s x) w) := by
  obtain ⟨q0, q1⟩ := heap2 w (.cells #[.bool x.neg, .int .i64 x.l.fn, .slice A1 x.l.args.length c1, .int .i64 x.r.fn, .slice A2 x.r.args.length c2] 33) (.cells #[.bool false, .int .i64 0, .slice none 0 0, .int .i64 0, .slice none 0 0] 33)
  obtain ⟨W, hW⟩ : ∃ W, ((w.alloc (.cells #[.bool x.neg, .int .i64 x.l.fn, .slice A1 x.l.args.length c1, .int .i64 x.r.fn, .slice A2 x.r.args.length c2] 33)).alloc (.cells #[.bool false, .int .i64 0, .slice none 0 0, .int .i64 0, .slice none 0 0] 33)) = W := ⟨_, rfl⟩
  have hB : Below w.heap.size w W := by rw [← hW]; exact ((Below.refl _ _).alloc (Nat.le_refl _) _).alloc (by simp) _
  rw [hW] at q0 q1
  have hWs : w.heap.size + 1 < W.heap.size := (Array.getElem?_eq_some_iff.1 q1).1
  have hnC : ∀ g, w.heap.size ≤ g → ¬ C g := fun g h e => by have := hN.cb _ e; omega
  have hnD : ∀ g, D g → g < w.heap.size := fun g e => by have := hN.db _ e; omega
  have H1 := Lib.hid (hN.call s x.l A1 c1 W (by omega) (hN.stay s w W hs ((Keeps.of_below hB).mono fun g e => hnD g e)) hl hVl (hA1.keep fun g e => hB.block g (by have := hN.nb g e; omega)))
  obtain ⟨a0, a1, a2, a3, a4⟩ := cells_5 q0
  have hent := hN.ent
  have HW := Lib.hid hW
  have HN := Lib.hid hN
  have HA2 := Lib.hid hA2
  clear hW hA1 hA2 hs hN
  go_enter Try.func56, Try.ntmps56
  go_upto_region 1 with fail
  rw [HW.out]
  go_upto_region 2 with (first
    | ((with_reducible refine H1.out.mono ?_); go_must (rintro e w3 ⟨A3, c3, rfl, hi3, hO3, hI3, hk3⟩; have hO3 := Lib.hid hO3; have hI3 := Lib.hid hI3))
    | fail)
  obtain ⟨W4, hW4⟩ : ∃ W4, w3.alloc (.cells #[.int .i64 (ch s x.l).2.fn, .slice A3 (ch s x.l).2.args.length c3] 31) = W4 := ⟨_, rfl⟩
  have hB4 : Below w3.heap.size w3 W4 := by rw [← hW4]; exact (Below.refl _ _).alloc (Nat.le_refl _) _
  have u0 := heap_alloc_new w3 (.cells #[.int .i64 (ch s x.l).2.fn, .slice A3 (ch s x.l).2.args.length c3] 31)
  rw [hW4] at u0
  have hz3 := hk3.size
  have hz4 : w3.heap.size < W4.heap.size := (Array.getElem?_eq_some_iff.1 u0).1
  have t0 := (hB4.block _ (by omega)).trans ((hk3.block (by omega) (hnC _ (Nat.le_refl _))).trans q0)
  have t1 := (hB4.block _ (by omega)).trans ((hk3.block hWs (hnC _ (by omega))).trans q1)
  have hS : ∀ w', KeepsC C W4 w' → w'.cell? ⟨w.heap.size, 0, none⟩ = some (.bool x.neg) ∧ w'.cell? ⟨w3.heap.size, 0, none⟩ = some (.int .i64 (ch s x.l).2.fn) ∧ w'.cell? ⟨w3.heap.size, 1, none⟩ = some (.slice A3 (ch s x.l).2.args.length c3) ∧ w'.cell? ⟨w.heap.size, 3, none⟩ = some (.int .i64 x.r.fn) ∧ w'.cell? ⟨w.heap.size, 4, none⟩ = some (.slice A2 x.r.args.length c2) := fun w' h => by
    obtain ⟨d0, _, _, d3, d4⟩ := cells_5 ((h.block (by omega) (hnC _ (Nat.le_refl _))).trans t0)
    obtain ⟨e0, e1, _, _⟩ := cells_two ((h.block hz4 (hnC _ (by omega))).trans u0)
    exact ⟨d0, e0, e1, d3, d4⟩
  have hkD : Keeps D w3 W4.drew := ((Keeps.of_below hB4).mono fun g e => by have := hnD g e; show g < w3.heap.size; omega).trans (Keeps.drewN D W4 1)
  have H2 := Lib.hid (HN.out.call (ch s x.l).1 x.r A2 c2 W4.drew (by show B0 ≤ W4.heap.size; omega) (HN.out.stay _ w3 W4.drew hI3.out hkD) hr hVr (HA2.out.keep fun g e => by
    have hg := HN.out.nb g e
    exact (hB4.block g (by omega)).trans ((hk3.block (by omega) (HN.out.nc g e)).trans (hB.block g (by omega)))))
  have hO3 := Lib.hid (hO3.out.on hB4 (Nat.le_refl _))
  have HS := Lib.hid hS
  obtain ⟨f0, f1, f2, f3, f4⟩ := hS W4.drew (Keeps.drewN _ W4 1)
  obtain ⟨e0, e1, e2, e3, e4⟩ := hS W4 (KeepsC.refl _ _)
  have n1 : w.heap.size ≠ w.heap.size + 1 := by omega
  have n2 : w3.heap.size ≠ w.heap.size + 1 := by omega
  rw [hW4]
  clear hW4 hS hkD a0 a1 a2 a3 a4
  go_region_held3 (fun w' => w'.cell? ⟨w.heap.size, 0, none⟩ = some (.bool x.neg) ∧ w'.cell? ⟨w3.heap.size, 0, none⟩ = some (.int .i64 (ch s x.l).2.fn) ∧ w'.cell? ⟨w3.heap.size, 1, none⟩ = some (.slice A3 (ch s x.l).2.args.length c3) ∧ w'.cell? ⟨w.heap.size, 3, none⟩ = some (.int .i64 x.r.fn) ∧ w'.cell? ⟨w.heap.size, 4, none⟩ = some (.slice A2 x.r.args.length c2))
    (first | (with_reducible exact ⟨f0, f1, f2, f3, f4⟩) | (with_reducible exact ⟨e0, e1, e2, e3, e4⟩) | (with_reducible exact ⟨r5, r6, r7, r8, r9⟩) | (with_reducible exact ⟨cell_set5 r5 n1, cell_set5 r6 n2, cell_set5 r7 n2, cell_set5 r8 n1, cell_set5 r9 n1⟩) | (trace_state; fail))
    (first
      | ((with_reducible refine H2.out.mono ?_)
         rintro e w5 ⟨A5, c5, rfl, hi5, hO5, hI5, hk5'⟩
         have hk5 : KeepsC C W4 w5 := Keeps.mk hk5'.k.os hk5'.k.tape hk5'.k.output hk5'.k.size hk5'.k.block
         have t5 := (hk5.block (by omega) (hnC _ (by omega))).trans t1
         obtain ⟨s0, s1, s2, s3, s4⟩ := frozen_5 t5
         obtain ⟨r0, r1, r2, r3, r4⟩ := cells_5 t5
         obtain ⟨r5, r6, r7, r8, r9⟩ := HS.out _ hk5
         have hO5 := Lib.hid hO5
         have hI5 := Lib.hid hI5))
  go_wp2
  have z5 := set5 (a1 := .bool x.neg) (a2 := .int .i64 (ch s x.l).2.fn) (a3 := .slice A3 (ch s x.l).2.args.length c3) (a4 := .int .i64 (ch (ch s x.l).1 x.r).2.fn) (a5 := .slice A5 (ch (ch s x.l).1 x.r).2.args.length c5) t5
  obtain ⟨p0, p1, p2, p3, p4⟩ := cells_5 z5
  have hoth : ∀ g, g ≠ w.heap.size + 1 → ((((((w5.setCell ⟨w.heap.size + 1, 0, none⟩ (.bool x.neg)).setCell ⟨w.heap.size + 1, 1, none⟩ (.int .i64 (ch s x.l).2.fn)).setCell ⟨w.heap.size + 1, 2, none⟩ (.slice A3 (ch s x.l).2.args.length c3)).setCell ⟨w.heap.size + 1, 3, none⟩ (.int .i64 (ch (ch s x.l).1 x.r).2.fn)).setCell ⟨w.heap.size + 1, 4, none⟩ (.slice A5 (ch (ch s x.l).1 x.r).2.args.length c5))).heap[g]? = w5.heap[g]? := fun g hb =>
    (heap_setCell_other _ _ _ _ hb).trans ((heap_setCell_other _ _ _ _ hb).trans ((heap_setCell_other _ _ _ _ hb).trans ((heap_setCell_other _ _ _ _ hb).trans (heap_setCell_other _ _ _ _ hb))))
  have hz5 := hk5.size
  refine bodyPost_ret (v := .agg #[.bool x.neg, .int .i64 (ch s x.l).2.fn, .slice A3 (ch s x.l).2.args.length c3, .int .i64 (ch (ch s x.l).1 x.r).2.fn, .slice A5 (ch (ch s x.l).1 x.r).2.args.length c5]) (by simp [results, Try.results56, go_sem, p0, p1, p2, p3, p4]) rfl ⟨A3, c3, A5, c5, rfl, hi3, hi5, ?_, ?_, ?_, ?_⟩
  · exact OwnT.wide (lo := W.heap.size) (hi := w3.heap.size) (hO3.out.keep fun g h1 h2 => (hoth g (by omega)).trans (hk5.block (by omega) (hnC g (by omega)))) (by omega) (by simp; omega)
  · exact OwnT.wide (lo := W4.heap.size) (hi := w5.heap.size) (hO5.out.keep fun g h1 h2 => hoth g (by have h1 : W4.heap.size ≤ g := h1; omega)) (by omega) (by simp)
  · exact HN.out.stay _ w5 _ hI5.out ⟨rfl, rfl, rfl, by simp, fun g e => hoth g (by have := hnD g e; omega)⟩
  · have hb : w.heap.size ≤ w.heap.size + 1 := Nat.le_succ _
    exact ((((((((KeepsC.of_below hB).trans hk3).trans (KeepsC.of_below hB4)).trans hk5).set hb _).set hb _).set hb _).set hb _).set hb _
end

end Go.Proofs.Ytdeegdndfblnkaa

namespace Go.Proofs.Ytdeegdndfblnkaa
open Go.RowKit Go.Shelf
set_option maxRecDepth 100000

theorem info_lit : (Try.prog.info? 33).map (fun i => (i.zero, i.size, i.bytes)) = some (some (.agg #[.bool false, .int .i64 0, .slice none 0 0, .int .i64 0, .slice none 0 0]), 5, 72) := by kernel_rfl
/-- One literal's cells; its terms lie in N's blocks. -/
structure LtAt (w : World) (N : Nat → Prop) (b off : Nat) (x : Lt) (A1 : Option Addr) (c1 : Nat) (A2 : Option Addr) (c2 : Nat) : Prop where
  v0 : w.cell? ⟨b, off, none⟩ = some (.bool x.neg)
  v1 : w.cell? ⟨b, off + 1, none⟩ = some (.int .i64 x.l.fn)
  v2 : w.cell? ⟨b, off + 2, none⟩ = some (.slice A1 x.l.args.length c1)
  v3 : w.cell? ⟨b, off + 3, none⟩ = some (.int .i64 x.r.fn)
  v4 : w.cell? ⟨b, off + 4, none⟩ = some (.slice A2 x.r.args.length c2)
  il : I64 x.l.fn
  ir : I64 x.r.fn
  sl : ArgsN w N A1 x.l.args
  sr : ArgsN w N A2 x.r.args
/-- The slice at A holds the literals; they, and their terms, lie in N's blocks. -/
structure Lits (w : World) (N : Nat → Prop) (A : Option Addr) (l : List Lt) : Prop where
  len : l.length ≤ 9223372036854775807
  ad : 0 < l.length → ∃ b off, A = some ⟨b, off, none⟩ ∧ N b ∧ ∀ (i : Nat) (x : Lt), l[i]? = some x → ∃ A1 c1 A2 c2, LtAt w N b (off + i * 5) x A1 c1 A2 c2
section
variable {w w' : World} {N M : Nat → Prop} {A : Option Addr} {l : List Lt}
theorem LtAt.keep {b off : Nat} {x : Lt} {A1 A2 : Option Addr} {c1 c2 : Nat} (h : LtAt w N b off x A1 c1 A2 c2) (hb : w'.heap[b]? = w.heap[b]?) (hk : ∀ g, N g → w'.heap[g]? = w.heap[g]?) : LtAt w' N b off x A1 c1 A2 c2 :=
  ⟨(cell_of_heap hb).trans h.v0, (cell_of_heap hb).trans h.v1, (cell_of_heap hb).trans h.v2, (cell_of_heap hb).trans h.v3, (cell_of_heap hb).trans h.v4, h.il, h.ir, h.sl.keep hk, h.sr.keep hk⟩
theorem Lits.keep (h : Lits w N A l) (hk : ∀ g, N g → w'.heap[g]? = w.heap[g]?) : Lits w' N A l :=
  ⟨h.len, fun hn => by
    obtain ⟨b, off, hA, hb, hc⟩ := h.ad hn
    refine ⟨b, off, hA, hb, fun i x hx => ?_⟩
    obtain ⟨A1, c1, A2, c2, h1⟩ := hc i x hx
    exact ⟨A1, c1, A2, c2, h1.keep (hk b hb) hk⟩⟩
theorem Lits.wide (h : Lits w N A l) (hk : ∀ g, N g → M g) : Lits w M A l :=
  ⟨h.len, fun hn => by
    obtain ⟨b, off, hA, hb, hc⟩ := h.ad hn
    refine ⟨b, off, hA, hk b hb, fun i x hx => ?_⟩
    obtain ⟨A1, c1, A2, c2, h1⟩ := hc i x hx
    exact ⟨A1, c1, A2, c2, h1.v0, h1.v1, h1.v2, h1.v3, h1.v4, h1.il, h1.ir, h1.sl.wide hk, h1.sr.wide hk⟩⟩
theorem Lits.nil_ (w : World) (N : Nat → Prop) (A : Option Addr) : Lits w N A [] := ⟨by simp, fun h => by simp at h⟩
theorem Lits.get (h : Lits w N A l) {i : Nat} {x : Lt} (hx : l[i]? = some x) : ∃ b off A1 c1 A2 c2, A = some ⟨b, off, none⟩ ∧ N b ∧ LtAt w N b (off + i * 5) x A1 c1 A2 c2 := by
  have hlt := (List.getElem?_eq_some_iff.1 hx).1
  obtain ⟨b, off, hA, hb, hc⟩ := h.ad (by omega)
  obtain ⟨A1, c1, A2, c2, h1⟩ := hc i x hx
  exact ⟨b, off, A1, c1, A2, c2, hA, hb, h1⟩
end

/-- The row at b, k of its literals laid. -/
structure RowL (w : World) (b cap : Nat) (ys : List Lt) (k : Nat) (vs : List Value) : Prop where
  row : w.ownsRow b 33 5 (.slice (some ⟨b, 0, none⟩) ys.length cap) ys.length vs
  at_ : ∀ (i : Nat) (x : Lt), i < k → ys[i]? = some x → ∃ A1 c1 A2 c2, vs[i * 5]? = some (.bool x.neg) ∧ vs[i * 5 + 1]? = some (.int .i64 x.l.fn) ∧ vs[i * 5 + 2]? = some (.slice A1 x.l.args.length c1) ∧ vs[i * 5 + 3]? = some (.int .i64 x.r.fn) ∧ vs[i * 5 + 4]? = some (.slice A2 x.r.args.length c2) ∧
    I64 x.l.fn ∧ I64 x.r.fn ∧ ArgsN w (fun g => b < g ∧ g < w.heap.size) A1 x.l.args ∧ ArgsN w (fun g => b < g ∧ g < w.heap.size) A2 x.r.args
section
variable {w w' : World} {ys : List Lt} {b cap k : Nat} {vs : List Value}
theorem RowL.onK (h : RowL w b cap ys k vs) (hbs : b < w.heap.size) (hs : w.heap.size ≤ w'.heap.size) (hk : ∀ g, b ≤ g → g < w.heap.size → w'.heap[g]? = w.heap[g]?) : RowL w' b cap ys k vs :=
  ⟨ownsRow_keep h.row (fun g' e => by simp [Value.ownBlock] at e; exact e.symm) (hk b (Nat.le_refl _) hbs), fun i x hi hx => by
    obtain ⟨A1, c1, A2, c2, h0, h1, h2, h3, h4, h5, h6, h7, h8⟩ := h.at_ i x hi hx
    exact ⟨A1, c1, A2, c2, h0, h1, h2, h3, h4, h5, h6, (h7.keep fun g e => hk g (by omega) e.2).wide fun g e => ⟨e.1, by omega⟩, (h8.keep fun g e => hk g (by omega) e.2).wide fun g e => ⟨e.1, by omega⟩⟩⟩
theorem RowL.step (h : RowL w b cap ys k vs) {y : Lt} {A1 A2 : Option Addr} {c1 c2 : Nat} (hk : ys[k]? = some y) (hl : I64 y.l.fn) (hr : I64 y.r.fn) (hs1 : ArgsN w (fun g => b < g ∧ g < w.heap.size) A1 y.l.args) (hs2 : ArgsN w (fun g => b < g ∧ g < w.heap.size) A2 y.r.args) :
    ∃ vs', RowL (((((w.setCell ⟨b, k * 5, none⟩ (.bool y.neg)).setCell ⟨b, k * 5 + 1, none⟩ (.int .i64 y.l.fn)).setCell ⟨b, k * 5 + 2, none⟩ (.slice A1 y.l.args.length c1)).setCell ⟨b, k * 5 + 3, none⟩ (.int .i64 y.r.fn)).setCell ⟨b, k * 5 + 4, none⟩ (.slice A2 y.r.args.length c2)) b cap ys (k + 1) vs' := by
  have hkl := (List.getElem?_eq_some_iff.1 hk).1
  have hvs : vs.length = ys.length * 5 := h.row.1
  have h1 := (h.row.stored (k * 5) (.bool y.neg)).1
  have h2 := (h1.stored (k * 5 + 1) (.int .i64 y.l.fn)).1
  have h3 := (h2.stored (k * 5 + 2) (.slice A1 y.l.args.length c1)).1
  have h4 := (h3.stored (k * 5 + 3) (.int .i64 y.r.fn)).1
  have h5 := (h4.stored (k * 5 + 4) (.slice A2 y.r.args.length c2)).1
  have hother : ∀ g, b < g → (((((w.setCell ⟨b, k * 5, none⟩ (.bool y.neg)).setCell ⟨b, k * 5 + 1, none⟩ (.int .i64 y.l.fn)).setCell ⟨b, k * 5 + 2, none⟩ (.slice A1 y.l.args.length c1)).setCell ⟨b, k * 5 + 3, none⟩ (.int .i64 y.r.fn)).setCell ⟨b, k * 5 + 4, none⟩ (.slice A2 y.r.args.length c2)).heap[g]? = w.heap[g]? := fun g hg => by
    have hb : g ≠ b := by omega
    exact (heap_setCell_other _ _ _ _ hb).trans ((heap_setCell_other _ _ _ _ hb).trans ((heap_setCell_other _ _ _ _ hb).trans ((heap_setCell_other _ _ _ _ hb).trans (heap_setCell_other _ _ _ _ hb))))
  refine ⟨_, h5, fun i x hi hx => ?_⟩
  by_cases e : i = k
  · subst e
    rw [hk] at hx
    injection hx with hx
    subst hx
    refine ⟨A1, c1, A2, c2, ?_, ?_, ?_, ?_, ?_, hl, hr, (hs1.keep fun g e => hother g e.1).wide fun g e => ⟨e.1, by simpa using e.2⟩, (hs2.keep fun g e => hother g e.1).wide fun g e => ⟨e.1, by simpa using e.2⟩⟩
    · rw [List.getElem?_set_ne (by omega), List.getElem?_set_ne (by omega), List.getElem?_set_ne (by omega), List.getElem?_set_ne (by omega), List.getElem?_set_self (by omega)]
    · rw [List.getElem?_set_ne (by omega), List.getElem?_set_ne (by omega), List.getElem?_set_ne (by omega), List.getElem?_set_self (by simp; omega)]
    · rw [List.getElem?_set_ne (by omega), List.getElem?_set_ne (by omega), List.getElem?_set_self (by simp; omega)]
    · rw [List.getElem?_set_ne (by omega), List.getElem?_set_self (by simp; omega)]
    · rw [List.getElem?_set_self (by simp; omega)]
  · obtain ⟨B1, d1, B2, d2, g0, g1, g2, g3, g4, g5, g6, g7, g8⟩ := h.at_ i x (by omega) hx
    refine ⟨B1, d1, B2, d2, ?_, ?_, ?_, ?_, ?_, g5, g6, (g7.keep fun g e => hother g e.1).wide fun g e => ⟨e.1, by simpa using e.2⟩, (g8.keep fun g e => hother g e.1).wide fun g e => ⟨e.1, by simpa using e.2⟩⟩ <;>
      (repeat rw [List.getElem?_set_ne (by omega)]) <;> assumption
theorem RowL.whole (h : RowL w b cap ys ys.length vs) (hbs : b < w.heap.size) (hlen : ys.length ≤ 9223372036854775807) : Lits w (fun g => b ≤ g ∧ g < w.heap.size) (some ⟨b, 0, none⟩) ys := by
  have hvs : vs.length = ys.length * 5 := h.row.1
  refine ⟨hlen, fun _ => ⟨b, 0, rfl, ⟨Nat.le_refl _, hbs⟩, fun i x hx => ?_⟩⟩
  have hi := (List.getElem?_eq_some_iff.1 hx).1
  obtain ⟨A1, c1, A2, c2, h0, h1, h2, h3, h4, h5, h6, h7, h8⟩ := h.at_ i x hi hx
  rw [Nat.zero_add]
  exact ⟨A1, c1, A2, c2, (h.row.cellAt _ (by omega)).trans h0, (h.row.cellAt _ (by omega)).trans h1, (h.row.cellAt _ (by omega)).trans h2, (h.row.cellAt _ (by omega)).trans h3, (h.row.cellAt _ (by omega)).trans h4, h5, h6, h7.wide fun g e => ⟨by omega, e.2⟩, h8.wide fun g e => ⟨by omega, e.2⟩⟩
end

end Go.Proofs.Ytdeegdndfblnkaa

namespace Go.Proofs.Ytdeegdndfblnkaa
open Go.RowKit Go.Shelf
set_option maxRecDepth 100000

set_option maxHeartbeats 2000000 in
theorem eachL_any (k : FuncId) (hk : ∀ (args : Array Value) (w : World), (callFunc k args).run Try.prog w = .ok (.enter k args) w) (cv : Value) (C D N : Nat → Prop) (I : Nat → World → Prop) (xs ys : List Lt) (A : Option Addr) (c : Nat) (w : World) (hl : ys.length ≤ 3909374676536) (hxy : xs.length = ys.length)
    (hA : Lits w N A xs) (hNb : ∀ g, N g → g < w.heap.size) (hNC : ∀ g, N g → ¬ C g) (hCb : ∀ g, C g → g < w.heap.size) (hDb : ∀ g, D g → g < w.heap.size)
    (hI : ∀ i W W', I i W → Keeps D W W' → I i W') (h0 : I 0 w)
    (hcall : ∀ (i : Nat) (x y : Lt) (A1 A2 : Option Addr) (c1 c2 : Nat) (W : World), xs[i]? = some x → ys[i]? = some y → w.heap.size ≤ W.heap.size → KeepsC C w W → I i W → I64 x.l.fn → I64 x.r.fn → ArgsN W N A1 x.l.args → ArgsN W N A2 x.r.args →
      Calls Try.prog k #[.agg #[.bool x.neg, .int .i64 x.l.fn, .slice A1 x.l.args.length c1, .int .i64 x.r.fn, .slice A2 x.r.args.length c2], cv] W fun e W' => ∃ A3 c3 A4 c4, e = .returned (.agg #[.bool y.neg, .int .i64 y.l.fn, .slice A3 y.l.args.length c3, .int .i64 y.r.fn, .slice A4 y.r.args.length c4]) ∧ I64 y.l.fn ∧ I64 y.r.fn ∧ OwnT W' W.heap.size W'.heap.size A3 y.l.args ∧ OwnT W' W.heap.size W'.heap.size A4 y.r.args ∧ I (i + 1) W' ∧ KeepsC C W W') :
    Calls Try.prog 100 #[.slice A xs.length c, .func (.func k) #[] #[cv]] w fun e w' => ∃ A' c', e = .returned (.slice A' ys.length c') ∧ Lits w' (fun g => w.heap.size ≤ g ∧ g < w'.heap.size) A' ys ∧ I ys.length w' ∧ KeepsC C w w' := by
  obtain ⟨i0, hi, hz0, hz1, hz2⟩ := info_parts info_lit
  rw [hxy]
  rcases Nat.eq_zero_or_pos ys.length with hy0 | hy0
  · obtain rfl : ys = [] := List.eq_nil_of_length_eq_zero hy0
    simp only [List.length_nil] at *
    clear hcall hI
    go_enter Try.func100, Try.ntmps100
    go_wp2
    go_ret
    exact ⟨none, 0, rfl, Lits.nil_ _ _ _, h0, KeepsC.refl _ _⟩
  · have hne : ¬ ((ys.length : Int) = 0) := by omega
    have HA := Lib.hid hA
    have Hc := Lib.hid hcall
    have HI := Lib.hid hI
    have H0 := Lib.hid h0
    clear hA hcall hI h0
    go_enter Try.func100, Try.ntmps100
    go_wp2_with (first
      | (at_make; go_must (
         refine wpList_make_full _ rfl _ _ 24 rfl w.heap.size 33 i0 (.agg #[.bool false, .int .i64 0, .slice none 0 0, .int .i64 0, .slice none 0 0]) 5 Try.underlying24 hi hz0 hz1 .i64 .i64 _ _ ys.length rfl rfl rfl rfl (by rw [hz2]; omega) (by unfold maxLen; omega) (by simp) ?_
         intro w1 hown hgrow
         have hB1 := (Below.refl w.heap.size w).grown hgrow (Nat.le_refl _) (fun k e => by cases e)
         clear hgrow))
      | fail)
    have hbs1 : w.heap.size < w1.heap.size := by
      rcases hown.2 with ⟨h, _⟩ | ⟨g, cap, cur, h, _, hg, _⟩
      · cases h
      · injection h with h _ _; injection h with h; injection h with h _ _; subst h
        exact (Array.getElem?_eq_some_iff.1 hg).1
    have HR : Hid (∃ vs, RowL w1 w.heap.size ys.length ys 0 vs) := ⟨_, hown, fun i x h => by omega⟩
    have HI1 := Lib.hid (HI.out 0 w w1 H0.out ((Keeps.of_below hB1).mono fun g e => hDb g e))
    have hK1 : KeepsC C w w1 := KeepsC.of_below hB1
    clear hown hB1
    go_loopw [16] (fun i wr => ∃ j : Nat, j ≤ ys.length ∧ i = .int .i64 (j : Int) ∧ KeepsC C w wr ∧ w.heap.size < wr.heap.size ∧ Hid (I j wr) ∧ Hid (∃ vs, RowL wr w.heap.size ys.length ys j vs)) (fun i _ => ys.length - (intOf i).toNat)
    case atStart => exact ⟨0, Nat.zero_le _, rfl, hK1, hbs1, HI1, HR⟩
    case round =>
      obtain ⟨j, hj, rfl, hKr, hbs, HIj, H⟩ := hrel
      by_cases hlt : j < ys.length
      · obtain ⟨y, hy⟩ : ∃ y, ys[j]? = some y := ⟨_, List.getElem?_eq_getElem hlt⟩
        obtain ⟨x, hx⟩ : ∃ x, xs[j]? = some x := ⟨_, List.getElem?_eq_getElem (by omega)⟩
        obtain ⟨bb, off, A1, c1, A2, c2, rfl, hbN, ha⟩ := (HA.out.keep fun g e => hKr.block (hNb g e) (hNC g e)).get hx
        have e0 := ha.v0
        have e1 := ha.v1
        have e2 := ha.v2
        have e3 := ha.v3
        have e4 := ha.v4
        have hsl := ha.sl
        have hsr := ha.sr
        have hil := ha.il
        have hir := ha.ir
        obtain ⟨vs, hR⟩ := H.out
        have hvl : vs.length = ys.length * 5 := hR.row.1
        have hbx := (Below.refl wr.heap.size wr).alloc (Nat.le_refl _) (.cells #[.bool x.neg, .int .i64 x.l.fn, .slice A1 x.l.args.length c1, .int .i64 x.r.fn, .slice A2 x.r.args.length c2] 33)
        have hcall := Lib.hid (Hc.out j x y A1 A2 c1 c2 (wr.alloc (.cells #[.bool x.neg, .int .i64 x.l.fn, .slice A1 x.l.args.length c1, .int .i64 x.r.fn, .slice A2 x.r.args.length c2] 33)) hx hy (by simp; omega) (hKr.alloc _) (HI.out j wr _ HIj.out ((Keeps.of_below hbx).mono fun g e => by have := hDb g e; show g < wr.heap.size; omega)) hil hir (hsl.keep fun g e => hbx.block g (by have := hNb g e; omega)) (hsr.keep fun g e => hbx.block g (by have := hNb g e; omega)))
        have hR := Lib.hid hR
        have Hy := Lib.hid hy
        clear hx ha hy hsl hsr
        go_wp2_with (first
          | (with_reducible refine hcall.out.mono ?_; go_must (
             rintro e w4 ⟨A3, c3, A4, c4, rfl, hl64, hr64, hO3, hO4, hI4, hk4⟩
             have hK4 := (hKr.alloc (.cells #[.bool x.neg, .int .i64 x.l.fn, .slice A1 x.l.args.length c1, .int .i64 x.r.fn, .slice A2 x.r.args.length c2] 33)).trans hk4
             have hs4 := hk4.size
             have hsz : (wr.alloc (.cells #[.bool x.neg, .int .i64 x.l.fn, .slice A1 x.l.args.length c1, .int .i64 x.r.fn, .slice A2 x.r.args.length c2] 33)).heap.size = wr.heap.size + 1 := by simp
             have hkk : ∀ g, w.heap.size ≤ g → g < wr.heap.size → w4.heap[g]? = wr.heap[g]? := fun g h1 h2 => (hk4.block (by omega) (fun e => by have := hCb g e; omega)).trans (hbx.block g h2)
             have hR4 := hR.out.onK hbs (by omega) hkk
             have r0 := (hR4.row.cellAt (j * 5) (by omega)).trans (List.getElem?_eq_getElem (by omega))
             have r1 := (hR4.row.cellAt (j * 5 + 1) (by omega)).trans (List.getElem?_eq_getElem (by omega))
             have r2 := (hR4.row.cellAt (j * 5 + 2) (by omega)).trans (List.getElem?_eq_getElem (by omega))
             have r3 := (hR4.row.cellAt (j * 5 + 3) (by omega)).trans (List.getElem?_eq_getElem (by omega))
             have r4 := (hR4.row.cellAt (j * 5 + 4) (by omega)).trans (List.getElem?_eq_getElem (by omega))
             have s0 := hR4.row.frozenAt (j * 5)
             have s1 := hR4.row.frozenAt (j * 5 + 1)
             have s2 := hR4.row.frozenAt (j * 5 + 2)
             have s3 := hR4.row.frozenAt (j * 5 + 3)
             have s4 := hR4.row.frozenAt (j * 5 + 4)
             have hR4 := Lib.hid hR4
             have hO3 := Lib.hid hO3
             have hO4 := Lib.hid hO4
             have hI4 := Lib.hid hI4))
          | fail)
        have hst := hR4.out.step (c1 := c3) (c2 := c4) Hy.out hl64 hr64 (hO3.out.argsN.wide fun g e => ⟨by omega, e.2⟩) (hO4.out.argsN.wide fun g e => ⟨by omega, e.2⟩)
        go_roundw
        case rel =>
          have hb := Nat.le_refl w.heap.size
          have hD : ∀ g, D g → g ≠ w.heap.size := fun g e => by have := hDb g e; omega
          exact ⟨j + 1, by omega, by go_num, ((((hK4.set hb _).set hb _).set hb _).set hb _).set hb _, by simp; omega, HI.out _ _ _ hI4.out (((((Keeps.set w4 ⟨w.heap.size, j * 5, none⟩ _).mono hD).trans ((Keeps.set _ ⟨w.heap.size, j * 5 + 1, none⟩ _).mono hD)).trans ((Keeps.set _ ⟨w.heap.size, j * 5 + 2, none⟩ _).mono hD)).trans ((Keeps.set _ ⟨w.heap.size, j * 5 + 3, none⟩ _).mono hD) |>.trans ((Keeps.set _ ⟨w.heap.size, j * 5 + 4, none⟩ _).mono hD)), hst⟩
        case measure => simp [intOf]; omega
      · obtain rfl : j = ys.length := by omega
        obtain ⟨vs, hR⟩ := H.out
        go_wp2
        go_ret
        exact ⟨some ⟨w.heap.size, 0, none⟩, ys.length, rfl, hR.whole (by omega) (by omega), HIj.out, hKr⟩

end Go.Proofs.Ytdeegdndfblnkaa

namespace Go.Proofs.Ytdeegdndfblnkaa
open Go.RowKit Go.Shelf
set_option maxRecDepth 100000

section
variable {σ : Type} (ch : σ → Tm → σ × Tm)
def litsL : σ → List Lt → σ × List Lt
  | s, [] => (s, [])
  | s, x :: xs => ((litsL (sidesL ch s x).1 xs).1, (sidesL ch s x).2 :: (litsL (sidesL ch s x).1 xs).2)
theorem litsL_len : ∀ (s : σ) (xs : List Lt), (litsL ch s xs).2.length = xs.length
  | _, [] => by simp [litsL]
  | s, t :: ts => by simp [litsL, litsL_len]
theorem litsL_get : ∀ (s : σ) (xs : List Lt) (i : Nat) (t : Lt), xs[i]? = some t → (litsL ch s xs).2[i]? = some (sidesL ch (litsL ch s (xs.take i)).1 t).2 ∧ (litsL ch s (xs.take (i + 1))).1 = (sidesL ch (litsL ch s (xs.take i)).1 t).1
  | _, [], i, t, h => by simp at h
  | s, x :: xs, 0, t, h => by
    simp at h
    subst h
    simp [litsL]
  | s, x :: xs, i + 1, t, h => by
    have ih := litsL_get (sidesL ch s x).1 xs i t (by simpa using h)
    simp only [List.take_succ_cons, litsL, List.getElem?_cons_succ]
    exact ih
end

section
variable {σ : Type} {V : Tm → Prop} {ch : σ → Tm → σ × Tm} {k : FuncId} {cv : Array Value} {C D N : Nat → Prop} {I : σ → World → Prop} {B0 : Nat}
set_option maxHeartbeats 1000000 in
theorem literals1_any (hN : ChgC V ch k cv C D N I B0) (x : Lt) (s : σ) (A1 A2 : Option Addr) (c1 c2 bx : Nat) (w : World) (hB0 : B0 ≤ w.heap.size) (hb : Boxed w bx 83 (.func (.func k) #[] cv)) (hs : I s w) (hl : I64 x.l.fn) (hr : I64 x.r.fn) (hVl : V x.l) (hVr : V x.r) (hA1 : ArgsN w N A1 x.l.args) (hA2 : ArgsN w N A2 x.r.args) :
    Calls Try.prog 101 #[.agg #[.bool x.neg, .int .i64 x.l.fn, .slice A1 x.l.args.length c1, .int .i64 x.r.fn, .slice A2 x.r.args.length c2], .pointer (some ⟨bx, 0, none⟩)] w (SidesPost C I (sidesL ch s x) w) := by
  obtain ⟨q0, q1⟩ := heap2 w (.cells #[.bool x.neg, .int .i64 x.l.fn, .slice A1 x.l.args.length c1, .int .i64 x.r.fn, .slice A2 x.r.args.length c2] 33) (.cells #[.bool false, .int .i64 0, .slice none 0 0, .int .i64 0, .slice none 0 0] 33)
  obtain ⟨W, hW⟩ : ∃ W, ((w.alloc (.cells #[.bool x.neg, .int .i64 x.l.fn, .slice A1 x.l.args.length c1, .int .i64 x.r.fn, .slice A2 x.r.args.length c2] 33)).alloc (.cells #[.bool false, .int .i64 0, .slice none 0 0, .int .i64 0, .slice none 0 0] 33)) = W := ⟨_, rfl⟩
  have hB : Below w.heap.size w W := by rw [← hW]; exact ((Below.refl _ _).alloc (Nat.le_refl _) _).alloc (by simp) _
  rw [hW] at q0 q1
  have hWs : w.heap.size + 1 < W.heap.size := (Array.getElem?_eq_some_iff.1 q1).1
  have hnC : ∀ g, w.heap.size ≤ g → ¬ C g := fun g h e => by have := hN.cb _ e; omega
  have hnD : ∀ g, D g → g < w.heap.size := fun g e => by have := hN.db _ e; omega
  have hcb := Boxed.cell (show Boxed W bx _ _ from (hB.block _ hb.lt).trans hb)
  have hub : ∀ g, N g → W.heap[g]? = w.heap[g]? := fun g e => hB.block g (by have := hN.nb g e; omega)
  have H1 := Lib.hid (sides_any hN x s A1 A2 c1 c2 W (by omega) (hN.stay s w W hs ((Keeps.of_below hB).mono fun g e => hnD g e)) hl hr hVl hVr (hA1.keep hub) (hA2.keep hub))
  obtain ⟨a0, a1, a2, a3, a4⟩ := cells_5 q0
  have HW := Lib.hid hW
  have HN := Lib.hid hN
  clear hW hA1 hA2 hs hN hub
  go_enter Try.func101, Try.ntmps101
  go_upto_region 1 with fail
  rw [HW.out]
  go_wp2_with (first
    | (go_at_call 56; refine H1.out.mono ?_; go_must (rintro e w5 ⟨A3, c3, A5, c5, rfl, hi3, hi5, hO3, hO5, hI5, hk5⟩; have t5 := (hk5.block hWs (hnC _ (by omega))).trans q1; obtain ⟨s0, s1, s2, s3, s4⟩ := frozen_5 t5; obtain ⟨r0, r1, r2, r3, r4⟩ := cells_5 t5; have hO3 := Lib.hid hO3; have hO5 := Lib.hid hO5; have hI5 := Lib.hid hI5))
    | fail)
  obtain ⟨r, hr0⟩ : ∃ r, sidesL ch s x = r := ⟨_, rfl⟩
  rw [hr0] at hi3 hi5 hO3 hO5 hI5
  rw [hr0]
  have z5 := set5 (a1 := .bool r.2.neg) (a2 := .int .i64 r.2.l.fn) (a3 := .slice A3 r.2.l.args.length c3) (a4 := .int .i64 r.2.r.fn) (a5 := .slice A5 r.2.r.args.length c5) t5
  obtain ⟨p0, p1, p2, p3, p4⟩ := cells_5 z5
  have hoth : ∀ g, g ≠ w.heap.size + 1 → ((((((w5.setCell ⟨w.heap.size + 1, 0, none⟩ (.bool r.2.neg)).setCell ⟨w.heap.size + 1, 1, none⟩ (.int .i64 r.2.l.fn)).setCell ⟨w.heap.size + 1, 2, none⟩ (.slice A3 r.2.l.args.length c3)).setCell ⟨w.heap.size + 1, 3, none⟩ (.int .i64 r.2.r.fn)).setCell ⟨w.heap.size + 1, 4, none⟩ (.slice A5 r.2.r.args.length c5))).heap[g]? = w5.heap[g]? := fun g hb =>
    (heap_setCell_other _ _ _ _ hb).trans ((heap_setCell_other _ _ _ _ hb).trans ((heap_setCell_other _ _ _ _ hb).trans ((heap_setCell_other _ _ _ _ hb).trans (heap_setCell_other _ _ _ _ hb))))
  have hz5 := hk5.size
  refine bodyPost_ret (v := .agg #[.bool r.2.neg, .int .i64 r.2.l.fn, .slice A3 r.2.l.args.length c3, .int .i64 r.2.r.fn, .slice A5 r.2.r.args.length c5]) (by simp [results, Try.results101, go_sem, p0, p1, p2, p3, p4]) rfl ⟨A3, c3, A5, c5, rfl, hi3, hi5, ?_, ?_, ?_, ?_⟩
  · exact OwnT.wide (lo := W.heap.size) (hi := w5.heap.size) (hO3.out.keep fun g h1 h2 => hoth g (by omega)) (by omega) (by simp)
  · exact OwnT.wide (lo := W.heap.size) (hi := w5.heap.size) (hO5.out.keep fun g h1 h2 => hoth g (by omega)) (by omega) (by simp)
  · exact HN.out.stay _ w5 _ hI5.out ⟨rfl, rfl, rfl, by simp, fun g e => hoth g (by have := hnD g e; omega)⟩
  · have hb : w.heap.size ≤ w.heap.size + 1 := Nat.le_succ _
    exact ((((((KeepsC.of_below hB).trans hk5).set hb _).set hb _).set hb _).set hb _).set hb _

set_option maxHeartbeats 1000000 in
theorem literals_any (hN : ChgC V ch k cv C D N I B0) (xs : List Lt) (hlen : xs.length ≤ 3909374676536) (hV : ∀ x ∈ xs, V x.l ∧ V x.r) (s : σ) (A : Option Addr) (c : Nat) (w : World) (hB0 : B0 ≤ w.heap.size) (hs : I s w) (hA : Lits w N A xs) :
    Calls Try.prog 60 #[.slice A xs.length c, .func (.func k) #[] cv] w fun e w' => ∃ A' c', e = .returned (.slice A' (litsL ch s xs).2.length c') ∧ Lits w' (fun g => w.heap.size ≤ g ∧ g < w'.heap.size) A' (litsL ch s xs).2 ∧ I (litsL ch s xs).1 w' ∧ KeepsC C w w' := by
  have q0 := heap_alloc_new w (.cells #[.func (.func k) #[] cv] 83)
  obtain ⟨W, hW⟩ : ∃ W, w.alloc (.cells #[.func (.func k) #[] cv] 83) = W := ⟨_, rfl⟩
  have hB : Below w.heap.size w W := by rw [← hW]; exact (Below.refl _ _).alloc (Nat.le_refl _) _
  rw [hW] at q0
  have hWs : w.heap.size < W.heap.size := (Array.getElem?_eq_some_iff.1 q0).1
  have hncx : ¬ C w.heap.size := fun e => by have := hN.cb _ e; omega
  have hnD : ∀ g, D g → g < w.heap.size := fun g e => by have := hN.db _ e; omega
  have hub : ∀ g, N g → W.heap[g]? = w.heap[g]? := fun g e => hB.block g (by have := hN.nb g e; omega)
  have key := eachL_any 101 (enters_of Try.func101 (by kernel_rfl) rfl) (.pointer (some ⟨w.heap.size, 0, none⟩)) C (fun g => D g ∨ g = w.heap.size) N (fun i W => I (litsL ch s (xs.take i)).1 W ∧ Boxed W w.heap.size 83 (.func (.func k) #[] cv)) xs (litsL ch s xs).2 A c W (by rw [litsL_len]; exact hlen) (by rw [litsL_len])
    (hA.keep hub) (fun g e => by have := hN.nb g e; omega) hN.nc (fun g e => by have := hN.cb g e; omega) (fun g e => by rcases e with e | e; have := hN.db g e; omega; omega) (fun i Wa Wb h hk => ⟨hN.stay _ _ _ h.1 (hk.mono fun g e => .inl e), (hk.block _ (.inr rfl)).trans h.2⟩) ⟨by simpa [litsL] using hN.stay s w W hs ((Keeps.of_below hB).mono fun g e => hnD g e), q0⟩
    (fun i x y A1 A2 c1 c2 Wi hx hy hsz1 _ hIi hl64 hr64 hs1 hs2 => by
      obtain ⟨g1, g2⟩ := litsL_get ch s xs i x hx
      rw [hy] at g1
      injection g1 with g1
      have hv := hV x (List.mem_of_getElem? hx)
      refine (literals1_any hN x _ A1 A2 c1 c2 w.heap.size Wi (by omega) hIi.2 hIi.1 hl64 hr64 hv.1 hv.2 hs1 hs2).mono ?_
      rintro e w' ⟨A3, c3, A4, c4, rfl, h1, h2, h3, h4, h5, h6⟩
      rw [← g1] at h1 h2 h3 h4 ⊢
      exact ⟨A3, c3, A4, c4, rfl, h1, h2, h3, h4, ⟨by rw [g2]; exact h5, (h6.block hIi.2.lt hncx).trans hIi.2⟩, h6⟩)
  have Hkey := Lib.hid key
  have HW := Lib.hid hW
  clear key hW hA hs hub hV
  go_enter Try.func60, Try.ntmps60
  go_upto_region 1 with fail
  rw [HW.out]
  go_wp2_with (first
    | (go_at_call 100; refine Hkey.out.mono ?_; go_must (rintro e w5 ⟨A3, c3, rfl, hL, hI5, hk5⟩; have hL := Lib.hid hL; have hI5 := Lib.hid hI5))
    | fail)
  go_ret
  have hI6 := hI5.out.1
  rw [litsL_len, List.take_length] at hI6
  exact ⟨A3, c3, rfl, hL.out.wide fun g e => ⟨by omega, e.2⟩, hI6, (KeepsC.of_below hB).trans hk5⟩
end

end Go.Proofs.Ytdeegdndfblnkaa

namespace Go.Proofs.Ytdeegdndfblnkaa
open Go.RowKit Go.Shelf
set_option maxRecDepth 100000

section
variable {σ : Type} {V : Int → Prop} {nx : σ → Int → σ × Int} {kn : FuncId} {nc : Array Value} {C D N : Nat → Prop} {I : σ → World → Prop} {B0 : Nat}
theorem normal2_chg (hN : NumV V nx kn nc C D N I B0) (bn : Nat) (hbn : bn < B0) (hbC : ¬ C bn) :
    ChgC (fun t => t.size ≤ 4398046511104 ∧ VT V t) (renT nx) 62 #[.pointer (some ⟨bn, 0, none⟩)] C (fun g => D g ∨ g = bn) N (fun s w => I s w ∧ Boxed w bn 94 (.func (.func kn) #[] nc)) B0 where
  ent := enters_of Try.func62 (by kernel_rfl) rfl
  call := fun s t A c W hB0 hI hf hV hA => (normal2_any hN t hV.1 s A c bn W hB0 hI.2 hI.1 hf hV.2 hA).mono fun e w' ⟨A', c', he, h1, h2, h3, h4⟩ => ⟨A', c', he, h1, h2, ⟨h3, (h4.block hI.2.lt hbC).trans hI.2⟩, h4⟩
  stay := fun s W W' h hk => ⟨hN.stay s W W' h.1 (hk.mono fun g e => .inl e), (hk.block bn (.inr rfl)).trans h.2⟩
  cb := hN.cb
  db := fun g e => by
    rcases e with e | e
    · exact hN.db g e
    · omega
  nb := hN.nb
  nc := hN.nc
end

end Go.Proofs.Ytdeegdndfblnkaa
