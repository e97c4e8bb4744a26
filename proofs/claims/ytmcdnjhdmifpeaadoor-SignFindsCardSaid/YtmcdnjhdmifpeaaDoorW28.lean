/- Symbols; SignFinds up to its range. -/
import Derived.Test.YtmcdnjhdmifpeaaDoorW27
import Derived.Test.YtmcdnjhdmifpeaaDoorW22
import Derived.Deep.DeepCutAuto
import Derived.Test.YtmcdnjhdmifpeaaDoorQ1
namespace Go.Proofs.YtmcdnjhdmifpeaaDoor
open Go.RowKit Go.Shelf
attribute [local go_sem] Oper.semAt_some

theorem Own.block {w : World} {base n c : Nat} {A : Option Addr} {l : List Sm} (h : Own w base (.slice A n c) l) : ∀ a, A = some a → base ≤ a.block := by
  intro a ha
  subst ha
  exact h.ge (g := a.block) (by simp [Value.ownBlock])
/-- What Symbols answers: the iterator and what it holds. -/
def SymsPost (l : List Sm) (n : Nat) (p : Bool) (w : World) (e : Ending) (w' : World) : Prop :=
  ∃ A2 c2 bs, e = .returned (.func (.func 29) #[] #[.pointer (some ⟨bs, 0, none⟩), .pointer (some ⟨w.heap.size + 1, 0, none⟩)]) ∧ w'.cell? ⟨bs, 0, none⟩ = some (.slice A2 n c2) ∧ w'.cell? ⟨w.heap.size + 1, 0, none⟩ = some (.bool p) ∧
    Syms w' w'.heap.size A2 n l ∧ (∀ a, A2 = some a → w.heap.size ≤ a.block) ∧ w.heap.size ≤ bs ∧ Below w.heap.size w w'
set_option maxHeartbeats 1000000 in
theorem Symbols_any (A : Option Addr) (n c : Nat) (l : List Sm) (p : Bool) (w : World) (h : Syms w w.heap.size A n l) (hn : n * 32 ≤ 140737488351232) :
    Calls Tryd.prog 18 #[.agg #[.slice A n c], .bool p] w (SymsPost l n p w) := by
  have hbx : Below w.heap.size w ((w.alloc (.cells #[.slice A n c] 24)).alloc (.cells #[.bool p] 4)) := ((Below.refl _ _).alloc (Nat.le_refl _) _).alloc (by simp) _
  obtain rfl := h.len
  go_enter Tryd.func18, Tryd.ntmps18
  go_wp2_with (first
    | (go_at_call 28
       refine (Clone_any A l.length c l _ (h.on hbx) hn).mono ?_
       rintro e w1 ⟨A2, c2, rfl, hown, hb1⟩
       have z1 := cell_on hb1 (b := w.heap.size + 1) (o := 0) (v := .bool p) (by simp) (by go_simp)
       have hz1 := hb1.size
       simp at hz1
       have hB1 := bl_step hbx hb1
       have hZ : Below w1.heap.size w1 (w1.alloc (.cells #[.slice A2 l.length c2] 22)) := (Below.refl _ _).alloc (Nat.le_refl _) _)
    | fail)
  refine bodyPost_ret (results_tmp rfl _ _ _) rfl ?_
  refine ⟨A2, c2, w1.heap.size, rfl, by go_simp, cell_on hZ (by omega) z1, hown.syms.on hZ, fun a ha => by have := hown.block a ha; simp at this; omega, by omega, bl_step hB1 hZ⟩

/-- A function value is not nil. -/
theorem run_eql_seq (f : Fn) (xs ys : Array Value) (w : World) : (binOp .eql 39 (.func f xs ys) .nilFunc).run Tryd.prog w = .ok (.bool false) w := by
  have h : ∀ d, (Op.equalIn (d + 1) 39 (.func f xs ys) .nilFunc).run Tryd.prog w = .ok false w := fun d => by
    simp [Op.equalIn, run_underlying Tryd.underlying39]
  simp only [binOp]
  simp [Op.equal, Op.maxDepth, h 9999]
/-- What stays while the law runs. -/
structure FW (w : World) (A : Option Addr) (n c : Nat) (x : Sm) (p : Bool) (lv : Int) (wx : World) : Prop where
  below : Below w.heap.size w wx
  hi : w.heap.size + 4 < wx.heap.size
  cs : wx.cell? ⟨w.heap.size, 0, none⟩ = some (.slice A n c)
  cx : Sym3 wx (w.heap.size + 1) x
  cp : wx.cell? ⟨w.heap.size + 1 + 1, 0, none⟩ = some (.bool p)
  cl : wx.cell? ⟨w.heap.size + 1 + 1 + 1, 0, none⟩ = some (.int .i64 lv)
  cr : Boxed wx (w.heap.size + 1 + 1 + 1 + 1) 4 (.bool false)
theorem FW.on {w wx wy : World} {A : Option Addr} {n c : Nat} {x : Sm} {p : Bool} {lv : Int} (h : FW w A n c x p lv wx) (hb : Below wx.heap.size wx wy) : FW w A n c x p lv wy :=
  have hi := h.hi
  ⟨bl_step h.below hb, Nat.lt_of_lt_of_le h.hi hb.size, cell_on hb (by omega) h.cs, h.cx.on hb (by omega), cell_on hb (by omega) h.cp, cell_on hb (by omega) h.cl, (hb.block _ (by omega)).trans h.cr⟩

theorem FW.onB {w wx wy : World} {A : Option Addr} {n c : Nat} {x : Sm} {p : Bool} {lv : Int} (h : FW w A n c x p lv wx) (hb : Below (w.heap.size + 5) wx wy) : FW w A n c x p lv wy :=
  ⟨h.below.trans (hb.mono (by omega)), Nat.lt_of_lt_of_le h.hi hb.size, cell_on hb (by omega) h.cs, h.cx.on hb (by omega), cell_on hb (by omega) h.cp, cell_on hb (by omega) h.cl, (hb.block _ (by omega)).trans h.cr⟩
/-- The number in a box. -/
def curI (W : World) (b : Nat) : Nat := match W.cell? ⟨b, 0, none⟩ with | some v => (intOf v).toNat | none => 0
theorem curI_of {W : World} {b k : Nat} {t : TypeId} (h : Boxed W b t (.int .i64 (k : Int))) : curI W b = k := by
  unfold curI
  rw [h.cell]
  simp [intOf]
theorem box_next {W : World} {b k : Nat} {t : TypeId} {v : Value} (h : Boxed W b t v) : Boxed (W.setCell ⟨b, 0, none⟩ (.int .i64 ((k : Int) + 1))) b t (.int .i64 ((k + 1 : Nat) : Int)) := by
  rw [show ((k + 1 : Nat) : Int) = (k : Int) + 1 from by omega]
  exact h.set _
theorem not_pre1 {l : List Sm} {p : Bool} {t t' : Nat} {y : Sm} {z : IxS} (hy : l[t']? = some y) (hp : y.pred = p) (h3 : picks l p t' = picks l p t) (hz : z ≠ (t', y)) : ¬ (picks l p t ++ [z] <+: picks l p l.length) := by
  intro h
  have hlt : t' < l.length := (List.getElem?_eq_some_iff.1 hy).1
  have h2 := picks_pre l p (show t' + 1 ≤ l.length by omega)
  rw [picks_yes hy hp, h3] at h2
  have h4 := (List.prefix_of_prefix_length_le h h2 (by simp)).eq_of_length (by simp)
  have h5 := List.append_cancel_left h4
  simp at h5
  exact hz h5
theorem not_pre2 {l : List Sm} {p : Bool} {t : Nat} {z : IxS} (h3 : picks l p l.length = picks l p t) : ¬ (picks l p t ++ [z] <+: picks l p l.length) := by
  intro h
  have := h.length_le
  rw [h3] at this
  simp at this
  omega
theorem ko_drewN (W : World) (k : Nat) : KeepsOthers W (W.drewN k) := ⟨Nat.le_refl _, fun _ _ h _ => h⟩
theorem ko_store {W W1 : World} (h : KeepsOthers W W1) (k : Nat) (a : Addr) (v : Value) : KeepsOthers W ((W1.drewN k).setCell a v) := h.trans ((ko_drewN W1 k).trans (KeepsOthers.setCell _ a v))
theorem kx_store {ba bm : Nat} {W W1 : World} (h : KX ba bm W W1) (k : Nat) {b : Nat} (hb : b = ba ∨ b = bm) (v : Value) : KX ba bm W ((W1.drewN k).setCell ⟨b, 0, none⟩ v) := fun q u h1 h2 e => by
  have e1 := h q u h1 h2 e
  have hne : some q.block ≠ some b := fun e' => by injection e' with e'; rcases hb with rfl | rfl <;> omega
  have hlt : q.block < (W1.drewN k).heap.size := cell_lt e1
  exact (World.cell?_of_block ((grownBy_setCell' (W1.drewN k) b v).block q.block hlt hne)).trans e1
theorem blk3_store {W : World} {Bx b k : Nat} {x : Sm} (h : Blk3 W Bx x) (hne : Bx ≠ b) (v : Value) : Blk3 ((W.drewN k).setCell ⟨b, 0, none⟩ v) Bx x :=
  ((grownBy_setCell' (W.drewN k) b v).block Bx (Array.getElem?_eq_some_iff.1 h).1 (fun e => by injection e with e; exact hne e)).trans h
theorem blk3_box {W : World} {Bx b : Nat} {x : Sm} {t : TypeId} {v : Value} (h : Blk3 W Bx x) (hb : Boxed W b t v) : Bx ≠ b := by
  intro e
  subst e
  have := h.symm.trans hb
  simp at this
theorem box_ne {W : World} {B b : Nat} {t : TypeId} {v : Value} {row : Option Nat} (h : Boxed W b t v) (hr : ∀ r, row = some r → B ≤ r ∧ ∃ o : Obj, W.heap[r]? = some o ∧ o.isCells = false) : some b ≠ row := by
  intro e
  obtain ⟨_, o, ho, hc⟩ := hr b e.symm
  rw [show W.heap[b]? = _ from h] at ho
  injection ho with ho
  subst ho
  cases hc
theorem FW.grown {B : Nat} {w W W' : World} {A : Option Addr} {n c : Nat} {x : Sm} {p : Bool} {lv : Int} {row : Option Nat} (h : FW w A n c x p lv W) (hB : w.heap.size ≤ B) (hg : W.grownBy W' row) (hr : ∀ r, row = some r → B ≤ r ∧ ∃ o : Obj, W.heap[r]? = some o ∧ o.isCells = false) : FW w A n c x p lv W' :=
  have hr' := fun r e => (hr r e).2
  ⟨h.below.grown hg h.below.size (fun k e => Nat.le_trans hB (hr k e).1), Nat.lt_of_lt_of_le h.hi hg.size, cell_kept h.cs hg hr', ⟨cell_kept h.cx.k0 hg hr', cell_kept h.cx.k1 hg hr', cell_kept h.cx.k2 hg hr'⟩, cell_kept h.cp hg hr', cell_kept h.cl hg hr', h.cr.kept hg (box_ne h.cr hr)⟩
theorem syms_stops (F : Fence) (n : Nat) (hf : F.fn 29) (hro : F.round = none) (hn : 1 ≤ n) (Bs Bp ba bm : Nat) (A : Option Addr) (c B : Nat) (L : List Sm) (hL : L.length * 32 ≤ 140737488351232) (p : Bool)
    (n1 : Bs ≠ ba) (n2 : Bs ≠ bm) (n3 : Bp ≠ ba) (n4 : Bp ≠ bm) (hA : ∀ a, A = some a → a.block ≠ ba ∧ a.block ≠ bm) (w : World) (hlt : Bs < w.heap.size) (hltp : Bp < w.heap.size) (hB : B ≤ w.heap.size)
    (hBs : w.cell? ⟨Bs, 0, none⟩ = some (.slice A L.length c)) (hBp : w.cell? ⟨Bp, 0, none⟩ = some (.bool p)) (hS : Syms w B A L.length L) :
    SeqStopsK F n Tryd.prog 29 #[.pointer (some ⟨Bs, 0, none⟩), .pointer (some ⟨Bp, 0, none⟩)] ixS (KX ba bm) (fun ys => ys = picks L p L.length) (fun pre => pre <+: picks L p L.length) L.length w := fun l J Jx W hW hJ _ hY h0 =>
  symbols1_in F n hf hro hn l Bs Bp ba bm A c B L hL p n1 n2 n3 n4 hA J Jx (fun pre W1 o h => hJ pre W1 _ none h (World.grownBy_alloc W1 o none) (fun r e => by cases e)) hY W (cell_on hW hlt hBs) (cell_on hW hltp hBp) (hS.below (hW.mono hB)) h0

set_option maxRecDepth 100000 in
set_option maxHeartbeats 4000000 in
theorem SignFinds_any (A : Option Addr) (n c : Nat) (l : List Sm) (x : Sm) (p : Bool) (lv : Int) (w : World) (h : Syms w w.heap.size A n l) (hn : n * 32 ≤ 140737488351232) (ht : tru w) :
    Calls Tryd.prog 4 #[.agg #[.slice A n c], .agg #[.string x.name, .int .i64 x.arity, .bool x.pred], .bool p, .int .i64 lv] w fun e w' => e = .returned (.bool true) ∧ Below w.heap.size w w' := by
  obtain rfl := h.len
  have Hl := Lib.hid h
  have Ht := Lib.hid ht
  have hn64 : l.length ≤ 9223372036854775807 := by omega
  clear h ht
  refine (callsIn_wide (n := 3)).1 (callsIn_of_wp_marks Tryd.func4 rfl trivial ?_ rfl)
  simp only [Tryd.ntmps4, List.size_toArray, List.length_cons, List.length_nil, Nat.reduceAdd, Nat.reduceSub, Array.replicate_succ, Array.replicate_zero, List.push_toArray, List.append_toArray, List.nil_append, List.cons_append]
  refine wpIn_wide.2 ?_
  go_upto_region 1 with fail
  obtain ⟨W, hW⟩ : ∃ W, ((((w.alloc (.cells #[.slice A l.length c] 24)).alloc (.cells #[.string x.name, .int .i64 x.arity, .bool x.pred] 33)).alloc (.cells #[.bool p] 4)).alloc (.cells #[.int .i64 lv] 3)).alloc (.cells #[.bool false] 4) = W := ⟨_, rfl⟩
  have K0 : FW w A l.length c x p lv W := by
    rw [← hW]
    clear hW
    have hr := Boxed.new ((((w.alloc (.cells #[.slice A l.length c] 24)).alloc (.cells #[.string x.name, .int .i64 x.arity, .bool x.pred] 33)).alloc (.cells #[.bool p] 4)).alloc (.cells #[.int .i64 lv] 3)) 4 (.bool false)
    simp only [World.size_alloc] at hr
    refine ⟨(((((Below.refl _ w).alloc (Nat.le_refl _) _).alloc (by simp) _).alloc (by simp; omega) _).alloc (by simp; omega) _).alloc (by simp; omega) _, by simp, by go_simp, ⟨by go_simp, by go_simp, by go_simp⟩, by go_simp, by go_simp, hr⟩
  rw [hW]
  clear hW
  go_upto_region 5 with (first
    | (go_at_call 8
       refine (head_any _ (tru_below Ht.out K0.below)).mono ?_
       rintro e w1 ⟨rfl, hb1⟩
       have K1 := K0.on hb1
       have a1 := K1.cs
       obtain ⟨a2, a3, a4⟩ := K1.cx)
    | (go_at_call 16
       refine (Find_any A l.length c l x _ (Hl.out.on K1.below) hn64).mono ?_
       rintro e w2 ⟨rfl, hb2⟩
       have K2 := K1.on hb2
       have b1 := K2.cs
       obtain ⟨b2, b3, b4⟩ := K2.cx)
    | (go_at_call 17
       refine (At_any A l.length c w2.heap.size l x _ (Hl.out.on K2.below) (Nat.le_refl _) hn64).mono ?_
       rintro e w3 ⟨rfl, hb3⟩
       have K3 := K2.on hb3)
    | fail)
  go_cut [9, 10, 38] from 17 to 111 (fun _ _ s38 wx => s38 = .bool false ∧ wx = w3)
  case first =>
    by_cases h0 : (0 : Int) ≤ atI l x
    · have e1 : findB l x = true := by simp [findB, h0]
      have e2 : findN l x = atI l x := by unfold findN; rw [if_neg (by omega)]
      rw [e1, e2]
      go_wp2
      go_meet
      exact ⟨rfl, rfl⟩
    · have e1 : findB l x = false := by simp [findB, h0]
      have e2 : findN l x = 0 := by unfold findN; rw [if_pos (by omega)]
      rw [e1, e2]
      go_wp2
      go_meet
      exact ⟨rfl, rfl⟩
  case rest =>
    obtain ⟨rfl, rfl⟩ := hcut
    clear K0 K1 K2 a1 a2 a3 a4 b1 b2 b3 b4 hb1 hb2 hb3
    go_upto_region 8 with fail
    obtain ⟨W4, hW4⟩ : ∃ W4, (wc.alloc (.cells #[.int .i64 0] 3)).alloc (.cells #[.int .i64 0] 3) = W4 := ⟨_, rfl⟩
    have K4 : FW w A l.length c x p lv W4 := by rw [← hW4]; exact K3.on (((Below.refl _ _).alloc (Nat.le_refl _) _).alloc (by simp) _)
    have hsz4 : W4.heap.size = wc.heap.size + 1 + 1 := by rw [← hW4]; simp
    have t0 : Boxed W4 wc.heap.size 3 (.int .i64 0) := by rw [← hW4]; exact (Boxed.new _ _ _).alloc _
    have t1 : Boxed W4 (wc.heap.size + 1) 3 (.int .i64 0) := by rw [← hW4]; have := Boxed.new (wc.alloc (.cells #[.int .i64 0] 3)) 3 (.int .i64 0); simpa using this
    rw [hW4]
    clear hW4
    obtain ⟨ba, hba⟩ : ∃ ba, wc.heap.size = ba := ⟨_, rfl⟩
    have hbw : w.heap.size + 4 < ba := by rw [← hba]; exact K3.hi
    rw [hba] at t0 t1 hsz4 ⊢
    clear K3 hba
    have heqf := run_eql_seq
    have s4 := K4.cs
    have p4 := K4.cp
    go_wp2_with (first
      | (go_at_call 18
         refine (Symbols_any A l.length c l p _ (Hl.out.on K4.below) hn).mono ?_
         rintro e w5 ⟨A2, c2, bs, rfl, hcs, hcp, hs5, hA2, hbs, hb5⟩
         have K5 := K4.on hb5)
      | fail)
    have hbs5 : bs < w5.heap.size := cell_lt hcs
    have hbp5 : W4.heap.size + 1 < w5.heap.size := cell_lt hcp
    have hW4 : W4.heap.size ≤ w5.heap.size := hb5.size
    have hL := Hl.out.len
    have t05 : Boxed w5 ba 3 (.int .i64 0) := (hb5.block _ t0.lt).trans t0
    have t15 : Boxed w5 (ba + 1) 3 (.int .i64 0) := (hb5.block _ t1.lt).trans t1
    have hbp : W4.heap.size + 1 = ba + 1 + 1 + 1 := by omega
    rw [hbp] at hcp hbp5
    clear K4 s4 p4 t0 t1 hb5
    refine (wpIn_wide (n := 3)).1 ?_
    refine wpIn_rangeFunc_ownH (F := Fence.wide) (n := 3) rfl (by omega) (gf := 29) (lb := #[.pointer (some ⟨bs, 0, none⟩), .pointer (some ⟨ba + 1 + 1 + 1, 0, none⟩)]) rfl trivial (enters_of Tryd.func29 (by kernel_rfl) rfl)
      (syms_stops Fence.wide 2 trivial rfl (by omega) bs (ba + 1 + 1 + 1) ba (ba + 1) A2 c2 w5.heap.size l hn p (by omega) (by omega) (by omega) (by omega) (fun a ha => by have := hA2 a ha; omega) w5 hbs5 hbp5 (Nat.le_refl _) hcs hcp hs5)
      KX.trans (fun W l o o' h1 h2 h3 h4 => kx_put (w := w5) W l o o' h1 h2 h3 h4) (Below.refl _ _) (fun _ => rfl)
      (fun pre W => (∃ t : Nat, t ≤ l.length ∧ pre = picks l p t ∧ Boxed W ba 3 (.int .i64 (t : Int)) ∧ Boxed W (ba + 1) 3 (.int .i64 (pre.length : Int))) ∧ FW w A l.length c x p lv W)
      (fun cd pre W => cd = .ret ∧ (∃ rv, Boxed W (w.heap.size + 1 + 1 + 1 + 1) 4 (.bool rv) ∧ (pre <+: picks l p l.length → rv = true)) ∧ Below w.heap.size w W)
      ?hI ?hIx ⟨⟨0, Nat.zero_le _, rfl, t05, t15⟩, K5⟩
      (fun z a' W => ∃ Bx, Blk3 W Bx z.2 ∧ a' = { tmps := #[Value.agg #[Value.slice A l.length c], Value.agg #[Value.string x.name, Value.int IntKind.i64 x.arity, Value.bool x.pred], Value.bool p, Value.int IntKind.i64 lv, Value.pointer (some { block := w.heap.size, off := 0 }), Value.pointer (some { block := w.heap.size + 1, off := 0 }), Value.pointer (some { block := w.heap.size + 1 + 1, off := 0 }), Value.pointer (some { block := w.heap.size + 1 + 1 + 1, off := 0 }), Value.pointer (some { block := w.heap.size + 1 + 1 + 1 + 1, off := 0 }), u9, u10, Value.int IntKind.i64 (atI l x), Value.pointer (some { block := ba, off := 0 }), Value.pointer (some { block := ba + 1, off := 0 }), Value.func (Fn.func 29) #[] #[Value.pointer (some { block := bs, off := 0 }), Value.pointer (some { block := ba + 1 + 1 + 1, off := 0 })], .int .i64 (z.1 : Int), .pointer (some ⟨Bx, 0, none⟩), u17, u18, u19, u20, u21, u22, u23, u24, u25, u26, u27, u28, u29, u30, u31, u32, u33, u34, u35, u36, u37, Value.bool false, Value.agg #[Value.slice A l.length c], Value.bool p, Value.func (Fn.func 29) #[] #[Value.pointer (some { block := bs, off := 0 }), Value.pointer (some { block := ba + 1 + 1 + 1, off := 0 })], Value.func (Fn.func 29) #[] #[Value.pointer (some { block := bs, off := 0 }), Value.pointer (some { block := ba + 1 + 1 + 1, off := 0 })], Value.bool false, Value.func (Fn.func 29) #[] #[Value.pointer (some { block := bs, off := 0 }), Value.pointer (some { block := ba + 1 + 1 + 1, off := 0 })], .int .i64 (z.1 : Int), .agg #[.string z.2.name, .int .i64 z.2.arity, .bool z.2.pred], u47, u48, u49, u50, u51, u52, u53, u54, u55, u56, u57, u58, u59, u60, u61, u62, u63, u64, u65, u66, u67, u68, u69, u70, u71, u72, u73, u74, u75, u76, u77, u78, u79, u80, u81, u82, u83, u84, u85, u86, u87, u88, u89, u90, u91, u92, u93, u94, u95, u96, u97, u98, u99, u100, u101, u102, u103, u104, u105, u106, u107, u108, u109, u110, u111], defers := [] }) ?hAx ?assign ?body ?done ?stop
    case hI =>
      rintro pre W W' row ⟨⟨t, h1, h2, h3, h4⟩, K⟩ hg hr
      exact ⟨⟨t, h1, h2, h3.kept hg (box_ne h3 hr), h4.kept hg (box_ne h4 hr)⟩, K.grown (B := w5.heap.size) (by have := K5.hi; omega) hg hr⟩
    case hIx =>
      rintro cd pre W W' row ⟨h1, ⟨rv, h2, h3⟩, hB⟩ hg hr
      exact ⟨h1, ⟨rv, h2.kept hg (box_ne h2 hr), h3⟩, hB.grown hg hB.size (fun k e => by have := (hr k e).1; have := K5.hi; omega)⟩
    case hAx =>
      rintro z a' s W W' row ⟨Bx, hk, rfl⟩ hg hr
      exact ⟨Bx, blk3_own (β := Unit) _ Bx z.2 () W W' row hk hg hr, rfl⟩
    case assign =>
      rintro l' pre z W K ⟨⟨t, h1, h2, h3, h4⟩, K'⟩ hK
      simp only [ixS]
      gi_wp2
      exact hK _ _ ((KeepsOthers.alloc _ _).from _) (ck_alloc W _).kx ⟨⟨t, h1, h2, h3.alloc _, h4.alloc _⟩, K'.on ((Below.refl _ _).alloc (Nat.le_refl _) _)⟩ ⟨W.heap.size, World.alloc_heap_new W _, rfl⟩
    case body =>
      rintro l' pre z a' W hl0 _ ⟨⟨t, ht, rfl, bA, bM⟩, K⟩ ⟨Bx, hk, rfl⟩ hlt0
      have hba5 : ba + 1 < w5.heap.size := by omega
      clear K5 hcs hcp hs5 hA2 hbs hbs5 hbp5 hsz4 hbp t05 t15 hW4
      gi_wp2
      gi_loopw [] (fun wr => ∃ t' : Nat, t ≤ t' ∧ t' ≤ l.length ∧ picks l p t' = picks l p t ∧ Boxed wr ba 3 (.int .i64 (t' : Int)) ∧ Boxed wr (ba + 1) 3 (.int .i64 ((picks l p t).length : Int)) ∧ FW w A l.length c x p lv wr ∧ Blk3 wr Bx z.2 ∧ KeepsOthers W wr ∧ KX ba (ba + 1) W wr) (fun wr => l.length - curI wr ba)
      case atStart => exact ⟨t, Nat.le_refl _, ht, rfl, bA, bM, K, hk, KeepsOthers.refl _, KX.refl _ _ _⟩
      case round =>
        obtain ⟨t', h1, h2, h3, bA', bM', K', hk', ko, kx⟩ := hrel
        have ca := bA'.cell
        have fa := bA'.frozen
        have cm := bM'.cell
        have fm := bM'.frozen
        have cs' := K'.cs
        have cp' := K'.cp
        have cl' := K'.cl
        have cr' := K'.cr.cell
        have fr' := K'.cr.frozen
        by_cases hlt : t' < l.length
        · obtain ⟨y, hy⟩ : ∃ y, l[t']? = some y := ⟨_, List.getElem?_eq_getElem hlt⟩
          obtain ⟨b, off, rfl, hb, hc⟩ := Hl.out.ad (by omega)
          obtain ⟨e1, e2, e3⟩ := hc _ _ hy
          have d1 := cell_on K'.below hb e1
          have d2 := cell_on K'.below hb e2
          have d3 := cell_on K'.below hb e3
          by_cases hyp : y.pred = p
          · have hd : (y.pred != p) = false := by simpa using hyp
            have hd' : (y.pred == p) = true := by simpa using hyp
            have k1 := hk'.c1
            have k2 := hk'.c2
            have k3 := hk'.c3
            gi_wp2
            refine wpIn_region_rd rfl (by kernel_rfl) (by kernel_rfl) (by kernel_rfl) ?_
            repeat (quiet_step_in (fail))
            refine wpQuietIn_nil ?_
            rintro _ ⟨nq, rfl⟩
            have hneq := run_neq_sym
            have Hy := Lib.hid (And.intro hy hyp)
            have hlt' : ((t' : Int) ≥ (l.length : Int)) = False := by simp; omega
            clear hy hyp hc e1 e2 e3
            obtain ⟨zi, zs⟩ := z
            by_cases hi : t' = zi
            · subst hi
              by_cases hs : y = zs
              · subst hs
                have hsm := smB_true (rfl : y = y)
                have hpl := picks_le l p t
                by_cases hlv : ((picks l p t).length : Int) + 1 = lv
                · have hlv' : (((picks l p t).length : Int) + 1 == lv) = true := by simp [hlv]
                  gi_wp2
                  refine wpIn_region_rd rfl (by kernel_rfl) (by kernel_rfl) (by kernel_rfl) ?_
                  repeat (quiet_step_in (fail))
                  refine wpQuietIn_nil ?_
                  rintro _ ⟨nq2, rfl⟩
                  gi_wp2
                  exact ⟨(((ko_store ko (nq + nq2) _ _).trans (KeepsOthers.setCell _ _ _)).trans (KeepsOthers.setCell _ _ _)).from _, rfl, ⟨true, Boxed.set _ (Boxed.other (Boxed.other (show Boxed (wr.drewN (nq + nq2)) (w.heap.size + 1 + 1 + 1 + 1) 4 (.bool false) from K'.cr) (by omega) _) (by omega) _), fun _ => rfl⟩, (((bl_drewN K'.below (nq + nq2)).setCell (p := ⟨ba, 0, none⟩) (by show _ ≤ ba; omega) _).setCell (p := ⟨ba + 1, 0, none⟩) (by show _ ≤ ba + 1; omega) _).setCell (p := ⟨w.heap.size + 1 + 1 + 1 + 1, 0, none⟩) (by show _ ≤ w.heap.size + 1 + 1 + 1 + 1; omega) _⟩
                · have hlv' : (((picks l p t).length : Int) + 1 == lv) = false := by simp [hlv]
                  gi_wp2
                  refine wpIn_region_rd rfl (by kernel_rfl) (by kernel_rfl) (by kernel_rfl) ?_
                  repeat (quiet_step_in (fail))
                  refine wpQuietIn_nil ?_
                  rintro _ ⟨nq2, rfl⟩
                  gi_wp2
                  exact ⟨((ko_store ko (nq + nq2) _ _).trans (KeepsOthers.setCell _ _ _)).from _, (kx_store kx (nq + nq2) (.inl rfl) _).trans (kx_store (KX.refl _ _ _) 0 (.inr rfl) _),
                    ⟨t' + 1, by omega, by rw [picks_yes Hy.out.1 Hy.out.2, h3], Boxed.other (box_next (W := wr.drewN (nq + nq2)) bA') (by omega) _, by rw [List.length_append]; exact box_next (Boxed.other (W := wr.drewN (nq + nq2)) bM' (by omega) _)⟩, K'.onB (((bl_drewN (Below.refl _ _) (nq + nq2)).setCell (p := ⟨ba, 0, none⟩) (by show _ ≤ ba; omega) _).setCell (p := ⟨ba + 1, 0, none⟩) (by show _ ≤ ba + 1; omega) _)⟩
              · have hsm := smB_false (x := zs) (y := y) (fun e => hs e.symm)
                have Hnp := Lib.hid (not_pre1 Hy.out.1 Hy.out.2 h3 (fun e : ((t', zs) : IxS) = (t', y) => hs (by injection e with _ e2; exact e2.symm)))
                clear hs
                gi_wp2
                refine wpIn_region_rd rfl (by kernel_rfl) (by kernel_rfl) (by kernel_rfl) ?_
                repeat (quiet_step_in (fail))
                refine wpQuietIn_nil ?_
                rintro _ ⟨nq2, rfl⟩
                gi_wp2
                exact ⟨(ko_store ko (nq + nq2) _ _).from _, rfl, ⟨false, Boxed.set _ (show Boxed (wr.drewN (nq + nq2)) (w.heap.size + 1 + 1 + 1 + 1) 4 (.bool false) from K'.cr), fun h => absurd h Hnp.out⟩, (bl_drewN K'.below (nq + nq2)).setCell (p := ⟨w.heap.size + 1 + 1 + 1 + 1, 0, none⟩) (by show _ ≤ w.heap.size + 1 + 1 + 1 + 1; omega) _⟩
            · have hi1 : ((zi : Int) == (t' : Int)) = false := by simp; omega
              have hi2 : ((zi : Int) != (t' : Int)) = true := by simp; omega
              have hi3 : ¬ zi = t' := fun e => hi e.symm
              have Hnp := Lib.hid (not_pre1 Hy.out.1 Hy.out.2 h3 (fun e : ((zi, zs) : IxS) = (t', y) => hi3 (by injection e)))
              clear hi
              gi_wp2
              refine wpIn_region_rd rfl (by kernel_rfl) (by kernel_rfl) (by kernel_rfl) ?_
              repeat (quiet_step_in (fail))
              refine wpQuietIn_nil ?_
              rintro _ ⟨nq2, rfl⟩
              gi_wp2
              exact ⟨(ko_store ko (nq + nq2) _ _).from _, rfl, ⟨false, Boxed.set _ (show Boxed (wr.drewN (nq + nq2)) (w.heap.size + 1 + 1 + 1 + 1) 4 (.bool false) from K'.cr), fun h => absurd h Hnp.out⟩, (bl_drewN K'.below (nq + nq2)).setCell (p := ⟨w.heap.size + 1 + 1 + 1 + 1, 0, none⟩) (by show _ ≤ w.heap.size + 1 + 1 + 1 + 1; omega) _⟩
          · have hd : (y.pred != p) = true := by simpa using hyp
            have hd' : (y.pred == p) = false := by simpa using hyp
            have Hp := Lib.hid (picks_no hy hyp)
            clear hc hy hyp e1 e2 e3 d1 d2
            gi_wp2
            refine wpIn_region_rd rfl (by kernel_rfl) (by kernel_rfl) (by kernel_rfl) ?_
            repeat (quiet_step_in (fail))
            refine wpQuietIn_nil ?_
            rintro _ ⟨nq, rfl⟩
            gi_wp2
            go_roundw
            case rel => exact ⟨t' + 1, by omega, by omega, Hp.out.trans h3, box_next bA', Boxed.other (W := wr.drewN _) bM' (by omega) _, K'.onB ((bl_drewN (Below.refl _ _) _).setCell (by show _ ≤ ba; omega) _), blk3_store hk' (blk3_box hk' bA') _, ko_store ko _ _ _, kx_store kx _ (.inl rfl) _⟩
            case measure =>
              show l.length - curI _ ba < l.length - curI wr ba
              rw [curI_of bA', curI_of (k := t' + 1) (box_next (W := wr.drewN _) bA')]
              omega
        · obtain rfl : t' = l.length := by omega
          gi_wp2
          refine wpIn_region_rd rfl (by kernel_rfl) (by kernel_rfl) (by kernel_rfl) ?_
          repeat (quiet_step_in (fail))
          refine wpQuietIn_nil ?_
          rintro _ ⟨nq, rfl⟩
          gi_wp2
          refine wpIn_region_rd rfl (by kernel_rfl) (by kernel_rfl) (by kernel_rfl) ?_
          repeat (quiet_step_in (fail))
          refine wpQuietIn_nil ?_
          rintro _ ⟨nq2, rfl⟩
          gi_wp2
          exact ⟨(ko_store ko (nq + nq2) _ _).from _, rfl, ⟨false, Boxed.set _ (show Boxed (wr.drewN (nq + nq2)) (w.heap.size + 1 + 1 + 1 + 1) 4 (.bool false) from K'.cr), fun h => absurd h (not_pre2 h3)⟩, (bl_drewN K'.below (nq + nq2)).setCell (p := ⟨w.heap.size + 1 + 1 + 1 + 1, 0, none⟩) (by show _ ≤ w.heap.size + 1 + 1 + 1 + 1; omega) _⟩
    case done =>
      rintro D ys W hD rfl ⟨⟨t, ht, hp, bA, bM⟩, K⟩ hK
      have hD5 : ba < D := Nat.lt_of_lt_of_le (by omega) hD
      clear K5 hcs hcp hs5 hA2 hbs hbs5 hbp5 hsz4 hbp t05 t15 hW4 bM
      gi_wp2
      go_wp2
      go_loopw [] (fun wr => ∃ t' : Nat, t ≤ t' ∧ t' ≤ l.length ∧ picks l p t' = picks l p t ∧ Boxed wr ba 3 (.int .i64 (t' : Int)) ∧ FW w A l.length c x p lv wr ∧ wr.heap[D]? = some (.deferred (some []))) (fun wr => l.length - curI wr ba)
      case atStart => exact ⟨t, Nat.le_refl _, ht, rfl, bA, K, hK⟩
      case round =>
        obtain ⟨t', h1, h2, h3, bA', K', hK'⟩ := hrel
        have ca := bA'.cell
        have fa := bA'.frozen
        have cs' := K'.cs
        have cp' := K'.cp
        by_cases hlt : t' < l.length
        · obtain ⟨y, hy⟩ : ∃ y, l[t']? = some y := ⟨_, List.getElem?_eq_getElem hlt⟩
          by_cases hyp : y.pred = p
          · exfalso
            have e1 := (picks_pre l p (show t' + 1 ≤ l.length by omega)).length_le
            rw [picks_yes hy hyp, hp, h3] at e1
            simp at e1
            omega
          · have hd : (y.pred != p) = true := by simpa using hyp
            have hd' : (y.pred == p) = false := by simpa using hyp
            have Hp := Lib.hid (picks_no hy hyp)
            obtain ⟨b, off, rfl, hb, hc⟩ := Hl.out.ad (by omega)
            obtain ⟨_, _, e3⟩ := hc _ _ hy
            have d3 := cell_on K'.below hb e3
            clear hc hy hyp
            go_wp2
            go_quiet (fail)
            go_wp2
            go_roundw
            case rel => exact ⟨t' + 1, by omega, by omega, Hp.out.trans h3, box_next bA', K'.onB ((bl_drewN (Below.refl _ _) _).setCell (by show _ ≤ ba; omega) _), (KeepsOthers.setCell _ _ _).same D _ hK' rfl⟩
            case measure =>
              show l.length - curI _ ba < l.length - curI wr ba
              rw [curI_of bA', curI_of (k := t' + 1) (box_next (W := wr.drewN _) bA')]
              omega
        · obtain rfl : t' = l.length := by omega
          have cr' := K'.cr.cell
          have fr' := K'.cr.frozen
          go_wp2
          go_quiet (fail)
          go_wp2
          have hKs := (KeepsOthers.setCell (wr.drewN nq) ⟨w.heap.size + 1 + 1 + 1 + 1, 0, none⟩ (.bool true)).same D _ hK' rfl
          have hr' := cell_kept (Boxed.set (.bool true) (show Boxed (wr.drewN nq) (w.heap.size + 1 + 1 + 1 + 1) 4 (.bool false) from K'.cr)).cell (grownBy_putObj' _ D (.deferred none)) (fun r e => by cases e; exact ⟨_, hKs, rfl⟩)
          have hBs := (bl_drewN K'.below nq).setCell (p := ⟨w.heap.size + 1 + 1 + 1 + 1, 0, none⟩) (by show _ ≤ w.heap.size + 1 + 1 + 1 + 1; omega) (.bool true)
          refine ⟨by simp, .inl ⟨_, _, rfl, run_takeDeferred hKs, ?_⟩⟩
          exact ⟨.bool true, by simp [results, Tryd.results4, go_sem, hr'], rfl, hBs.trans (belowK_b (w := w) (Nat.le_refl _) _ D _ _ (by omega) hKs rfl rfl)⟩
    case stop =>
      rintro D cd pre W hD hpre ⟨rfl, ⟨rv, hr, hrv⟩, hB⟩ hK
      obtain rfl := hrv hpre
      gi_wp2
      refine ⟨by simp, .inl ⟨_, _, rfl, run_takeDeferred hK, ?_⟩⟩
      have hr' := cell_kept hr.cell (grownBy_putObj' _ D (.deferred none)) (fun r e => by cases e; exact ⟨_, hK, rfl⟩)
      exact ⟨.bool true, by simp [results, Tryd.results4, go_sem, hr'], rfl, hB.trans (belowK_b (w := w) (Nat.le_refl _) W D _ _ (by have := K5.hi; omega) hK rfl rfl)⟩
end Go.Proofs.YtmcdnjhdmifpeaaDoor
