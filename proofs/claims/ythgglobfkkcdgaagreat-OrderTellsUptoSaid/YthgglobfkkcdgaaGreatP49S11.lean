import Derived.Test.YthgglobfkkcdgaaGreatP49S10
import Derived.Test.YthgglobfkkcdgaaGreatP49S2
import Derived.Deep.RegionLaw
namespace Go.Proofs.YthgglobfkkcdgaaGreat
open Go.RowKit Go.Shelf Go.Maps
set_option maxRecDepth 100000
structure Hd where
  fn : Int
  sz : Int
  no : Int
structure Heads (w : World) (B : Nat) (A : Option Addr) (H : List Hd) : Prop where
  len : H.length ≤ 9223372036854775807
  i64 : ∀ x ∈ H, I64 x.fn ∧ I64 x.sz ∧ I64 x.no
  ad : 0 < H.length → ∃ b off, A = some ⟨b, off, none⟩ ∧ b < B ∧ ∀ (i : Nat) (x : Hd), H[i]? = some x → w.cell? ⟨b, off + i * 3, none⟩ = some (.int .i64 x.fn) ∧ w.cell? ⟨b, off + i * 3 + 1, none⟩ = some (.int .i64 x.sz) ∧ w.cell? ⟨b, off + i * 3 + 1 + 1, none⟩ = some (.int .i64 x.no)
theorem Heads.get {w : World} {B : Nat} {A : Option Addr} {H : List Hd} (h : Heads w B A H) {i : Nat} {x : Hd} (hx : H[i]? = some x) : ∃ b off, A = some ⟨b, off, none⟩ ∧ b < B ∧ w.cell? ⟨b, off + i * 3, none⟩ = some (.int .i64 x.fn) ∧ w.cell? ⟨b, off + i * 3 + 1, none⟩ = some (.int .i64 x.sz) ∧ w.cell? ⟨b, off + i * 3 + 1 + 1, none⟩ = some (.int .i64 x.no) := by
  have hlt := (List.getElem?_eq_some_iff.1 hx).1
  obtain ⟨b, off, hA, hb, hc⟩ := h.ad (by omega)
  exact ⟨b, off, hA, hb, hc i x hx⟩
structure PairR (w : World) (bp : Nat) (P : Option Addr) (rk : List Int) (pc : Nat) (A : Option Addr) (H : List Hd) (hc : Nat) (ml mf : Value) : Prop where
  box : w.heap[bp]? = some (.cells #[.slice P rk.length pc, .slice A H.length hc, ml, mf] 94)
  rks : Ints w w.heap.size P rk
  hds : Heads w w.heap.size A H
theorem Heads.blw {w w' : World} {A : Option Addr} {H : List Hd} (h : Heads w w.heap.size A H) (hb : Below w.heap.size w w') : Heads w' w'.heap.size A H :=
  ⟨h.len, h.i64, fun hn => by
    obtain ⟨b, off, hA, hlt, hc⟩ := h.ad hn
    exact ⟨b, off, hA, Nat.lt_of_lt_of_le hlt hb.size, fun i x hx => ⟨cell_on hb hlt (hc i x hx).1, cell_on hb hlt (hc i x hx).2.1, cell_on hb hlt (hc i x hx).2.2⟩⟩⟩
theorem PairR.on {w w' : World} {bp : Nat} {P : Option Addr} {rk : List Int} {pc : Nat} {A : Option Addr} {H : List Hd} {hc : Nat} {ml mf : Value} (h : PairR w bp P rk pc A H hc ml mf) (hb : Below w.heap.size w w') : PairR w' bp P rk pc A H hc ml mf :=
  ⟨(hb.block _ (Array.getElem?_eq_some_iff.1 h.box).1).trans h.box, h.rks.on hb, h.hds.blw hb⟩
theorem PairR.lt {w : World} {bp : Nat} {P : Option Addr} {rk : List Int} {pc : Nat} {A : Option Addr} {H : List Hd} {hc : Nat} {ml mf : Value} (h : PairR w bp P rk pc A H hc ml mf) : bp < w.heap.size := (Array.getElem?_eq_some_iff.1 h.box).1
theorem cells3 {W : World} {b : Nat} {x y z : Value} {t : TypeId} (h : W.heap[b]? = some (.cells #[x, y, z] t)) : W.cell? ⟨b, 0, none⟩ = some x ∧ W.cell? ⟨b, 1, none⟩ = some y ∧ W.cell? ⟨b, 2, none⟩ = some z ∧ W.frozen? ⟨b, 0, none⟩ = false ∧ W.frozen? ⟨b, 1, none⟩ = false ∧ W.frozen? ⟨b, 2, none⟩ = false := by
  refine ⟨?_, ?_, ?_, ?_, ?_, ?_⟩ <;> simp [World.cell?, World.frozen?, h]
theorem set3 {W : World} {b : Nat} {x y z x' y' z' : Value} {t : TypeId} (h : W.heap[b]? = some (.cells #[x, y, z] t)) : (((W.setCell ⟨b, 0, none⟩ x').setCell ⟨b, 1, none⟩ y').setCell ⟨b, 2, none⟩ z').heap[b]? = some (.cells #[x', y', z'] t) := by
  have e1 : (W.setCell ⟨b, 0, none⟩ x').heap[b]? = some (.cells #[x', y, z] t) := heap_setCell_same W _ 0 _ _ _ h
  have e2 : ((W.setCell ⟨b, 0, none⟩ x').setCell ⟨b, 1, none⟩ y').heap[b]? = some (.cells #[x', y', z] t) := heap_setCell_same _ _ 1 _ _ _ e1
  exact heap_setCell_same _ _ 2 _ _ _ e2
theorem below3 {B : Nat} {w W : World} {b : Nat} {x y z : Value} (h : Below B w W) (hb : B ≤ b) : Below B w (((W.setCell ⟨b, 0, none⟩ x).setCell ⟨b, 1, none⟩ y).setCell ⟨b, 2, none⟩ z) := ((h.setCell hb _).setCell hb _).setCell hb _
theorem below2 {B : Nat} {w W : World} {b : Nat} {x y : Value} (h : Below B w W) (hb : B ≤ b) : Below B w ((W.setCell ⟨b, 0, none⟩ x).setCell ⟨b, 1, none⟩ y) := (h.setCell hb _).setCell hb _
section
variable {bp : Nat} {P : Option Addr} {rk : List Int} {pc : Nat} {A : Option Addr} {H : List Hd} {hc : Nat} {ml mf : Value}
set_option maxHeartbeats 1000000 in
theorem lpoHead_any {at' : Nat} {x : Hd} (w : World) (hP : PairR w bp P rk pc A H hc ml mf) (hx : H[at']? = some x) :
    Calls Tryz.prog 65 #[.agg #[.pointer (some ⟨bp, 0, none⟩), .int .i64 (at' : Int)]] w fun e w' => e = .returned (.agg #[.int .i64 x.fn, .int .i64 x.sz, .int .i64 x.no]) ∧ Below w.heap.size w w' := by
  obtain ⟨W, hW⟩ : ∃ W, (w.alloc (.cells #[.pointer (some ⟨bp, 0, none⟩), .int .i64 (at' : Int)] 74)).alloc (.cells #[.int .i64 0, .int .i64 0, .int .i64 0] 97) = W := ⟨_, rfl⟩
  obtain ⟨q0, q1⟩ := heap2 w (.cells #[.pointer (some ⟨bp, 0, none⟩), .int .i64 (at' : Int)] 74) (.cells #[.int .i64 0, .int .i64 0, .int .i64 0] 97)
  have hB : Below w.heap.size w W := by rw [← hW]; exact ((Below.refl _ _).alloc (Nat.le_refl _) _).alloc (by simp) _
  rw [hW] at q0 q1
  have hPW := hP.on hB
  obtain ⟨a0, a1, _, _⟩ := cells_two q0
  obtain ⟨p0, p1, p2, p3⟩ := cells_four hPW.box
  obtain ⟨b, off, rfl, hb, c0, c1, c2⟩ := hPW.hds.get hx
  have hlt := (List.getElem?_eq_some_iff.1 hx).1
  have hl64 := hPW.hds.len
  have HW := Lib.hid hW
  obtain ⟨r0, r1, r2, f0, f1, f2⟩ := cells3 q1
  have hres := cells3 (set3 (x' := .int .i64 x.fn) (y' := .int .i64 x.sz) (z' := .int .i64 x.no) q1)
  have HBe := Lib.hid (below3 (x := .int .i64 x.fn) (y := .int .i64 x.sz) (z := .int .i64 x.no) hB (show w.heap.size ≤ w.heap.size + 1 by omega))
  clear hW hPW hP q0 q1 hx
  go_enter Tryz.func65, Tryz.ntmps65
  go_upto_region 1 with fail
  rw [HW.out]
  go_region
  go_wp2
  obtain ⟨e0, e1, e2, _, _, _⟩ := hres
  refine bodyPost_ret (v := .agg #[.int .i64 x.fn, .int .i64 x.sz, .int .i64 x.no]) (by simp [results, Tryz.results65, go_sem, e0, e1, e2]) rfl ⟨rfl, ?_⟩
  exact HBe.out.drew
theorem lpoEmpty_any (a b : Int) (v : Value) (w : World) : Calls Tryz.prog 104 #[.agg #[v, .int .i64 a, .int .i64 b]] w fun e w' => e = .returned (.bool (decide (b ≤ a))) ∧ Below w.heap.size w w' := by
  have q0 := heap_alloc_new w (.cells #[v, .int .i64 a, .int .i64 b] 137)
  obtain ⟨z0, z1, z2, _⟩ := cells3 q0
  go_enter Tryz.func104, Tryz.ntmps104
  go_wp2
  go_ret
  exact ⟨rfl, (Below.refl _ _).alloc (Nat.le_refl _) _⟩
theorem lpoFirst_any (a b : Int) (w : World) : Calls Tryz.prog 105 #[.agg #[.pointer (some ⟨bp, 0, none⟩), .int .i64 a, .int .i64 b]] w fun e w' => e = .returned (.agg #[.pointer (some ⟨bp, 0, none⟩), .int .i64 a]) ∧ Below w.heap.size w w' := by
  obtain ⟨W, hW⟩ : ∃ W, (w.alloc (.cells #[.pointer (some ⟨bp, 0, none⟩), .int .i64 a, .int .i64 b] 137)).alloc (.cells #[.pointer none, .int .i64 0] 74) = W := ⟨_, rfl⟩
  obtain ⟨q0, q1⟩ := heap2 w (.cells #[.pointer (some ⟨bp, 0, none⟩), .int .i64 a, .int .i64 b] 137) (.cells #[.pointer none, .int .i64 0] 74)
  have hB : Below w.heap.size w W := by rw [← hW]; exact ((Below.refl _ _).alloc (Nat.le_refl _) _).alloc (by simp) _
  rw [hW] at q0 q1
  obtain ⟨z0, z1, z2, _, _, _⟩ := cells3 q0
  obtain ⟨r0, r1, f0, f1⟩ := cells_two q1
  obtain ⟨_, hset⟩ := set2_two (u := .pointer (some ⟨bp, 0, none⟩)) (v := .int .i64 a) q1
  obtain ⟨e0, e1, _, _⟩ := cells_two hset
  have HW := Lib.hid hW
  have HBe := Lib.hid (below2 (x := .pointer (some ⟨bp, 0, none⟩)) (y := .int .i64 a) hB (show w.heap.size ≤ w.heap.size + 1 by omega))
  clear hW q0 q1 hset
  go_enter Tryz.func105, Tryz.ntmps105
  go_upto_region 1 with fail
  rw [HW.out]
  go_wp2
  refine bodyPost_ret (v := .agg #[.pointer (some ⟨bp, 0, none⟩), .int .i64 a]) (by simp [results, Tryz.results105, go_sem, e0, e1]) rfl ⟨rfl, ?_⟩
  exact HBe.out
set_option maxHeartbeats 1000000 in
theorem lpoVariable_any {at' : Nat} {x : Hd} (w : World) (hP : PairR w bp P rk pc A H hc ml mf) (hx : H[at']? = some x) :
    Calls Tryz.prog 97 #[.agg #[.pointer (some ⟨bp, 0, none⟩), .int .i64 (at' : Int)]] w fun e w' => e = .returned (.bool (decide (x.fn < 0))) ∧ Below w.heap.size w w' := by
  have hb : Below w.heap.size w (w.alloc (.cells #[.pointer (some ⟨bp, 0, none⟩), .int .i64 (at' : Int)] 74)) := (Below.refl _ _).alloc (Nat.le_refl _) _
  obtain ⟨W, hW⟩ : ∃ W, w.alloc (.cells #[.pointer (some ⟨bp, 0, none⟩), .int .i64 (at' : Int)] 74) = W := ⟨_, rfl⟩
  have q0 := heap_alloc_new w (.cells #[.pointer (some ⟨bp, 0, none⟩), .int .i64 (at' : Int)] 74)
  rw [hW] at hb q0
  obtain ⟨z0, z1, _, _⟩ := cells_two q0
  have HC := Lib.hid (lpoHead_any W (hP.on hb) hx)
  have HW := Lib.hid hW
  have hfield : ∀ w : World, (Instr.field 97 (.agg #[.int .i64 x.fn, .int .i64 x.sz, .int .i64 x.no]) 0).run Tryz.prog w = .ok (.int .i64 x.fn) w := fun w => by kernel_rfl
  clear hW q0 hP hx
  go_enter Tryz.func97, Tryz.ntmps97
  go_upto_region 1 with fail
  rw [HW.out]
  go_wp2_with (first
    | (go_at_call 65; go_must ((with_reducible refine HC.out.mono ?_); rintro e w1 ⟨rfl, hb1⟩))
    | fail)
  go_ret
  exact ⟨rfl, hb.trans (hb1.mono hb.size)⟩
set_option maxHeartbeats 1000000 in
theorem lpoEnd_any {at' : Nat} {x : Hd} (w : World) (hP : PairR w bp P rk pc A H hc ml mf) (hx : H[at']? = some x) (h64 : I64 ((at' : Int) + x.sz)) :
    Calls Tryz.prog 99 #[.agg #[.pointer (some ⟨bp, 0, none⟩), .int .i64 (at' : Int)]] w fun e w' => e = .returned (.int .i64 ((at' : Int) + x.sz)) ∧ Below w.heap.size w w' := by
  have hb : Below w.heap.size w (w.alloc (.cells #[.pointer (some ⟨bp, 0, none⟩), .int .i64 (at' : Int)] 74)) := (Below.refl _ _).alloc (Nat.le_refl _) _
  obtain ⟨W, hW⟩ : ∃ W, w.alloc (.cells #[.pointer (some ⟨bp, 0, none⟩), .int .i64 (at' : Int)] 74) = W := ⟨_, rfl⟩
  have q0 := heap_alloc_new w (.cells #[.pointer (some ⟨bp, 0, none⟩), .int .i64 (at' : Int)] 74)
  rw [hW] at hb q0
  have hPW := hP.on hb
  have hlt := (Array.getElem?_eq_some_iff.1 q0).1
  obtain ⟨z0, z1, _, _⟩ := cells_two q0
  have HC := Lib.hid fun y : Later W.heap.size W => lpoHead_any y.w (hPW.on y.h) hx
  have HW := Lib.hid hW
  have hfield : ∀ w : World, (Instr.field 97 (.agg #[.int .i64 x.fn, .int .i64 x.sz, .int .i64 x.no]) 1).run Tryz.prog w = .ok (.int .i64 x.sz) w := fun w => by kernel_rfl
  have hwr : IntKind.i64.wrap ((at' : Int) + x.sz) = (at' : Int) + x.sz := by have := h64.1; have := h64.2; rw [IntKind.wrap_i64]; omega
  have m0 : ∀ y : Later W.heap.size W, y.w.cell? ⟨w.heap.size, 0, none⟩ = some (.pointer (some ⟨bp, 0, none⟩)) := fun y => cell_on y.h hlt z0
  have m1 : ∀ y : Later W.heap.size W, y.w.cell? ⟨w.heap.size, 1, none⟩ = some (.int .i64 (at' : Int)) := fun y => cell_on y.h hlt z1
  clear hW q0 hP hx hPW z0 z1 hlt h64
  go_enter Tryz.func99, Tryz.ntmps99
  go_upto_region 1 with fail
  rw [HW.out]
  refine wp_region_later W.heap.size W (by kernel_rfl) (by kernel_rfl) (bl_drewN (Below.refl _ _) 1) ?_
  repeat (go_big_quiet_step (first | (go_at_call 65; with_reducible refine calls_later _ (Nat.le_refl _) (HC.out _)) | fail))
  refine wpQuiet_nil ?_
  rintro _ ⟨z, rfl⟩
  clear m0 m1
  go_wp2
  go_ret
  exact ⟨rfl, hb.trans (z.h.mono hb.size)⟩
def hdB (x y : Hd) : Bool := decide (x.fn = y.fn) && (decide (x.sz = y.sz) && decide (x.no = y.no))
theorem run_eql_head (a b c a' b' c' : Int) (w : World) : Sem.run Tryz.prog (binOp .eql 97 (.agg #[.int .i64 a, .int .i64 b, .int .i64 c]) (.agg #[.int .i64 a', .int .i64 b', .int .i64 c'])) w = .ok (.bool (hdB ⟨a, b, c⟩ ⟨a', b', c'⟩)) w := by
  have hS : Tryz.prog.underlying 97 = some (.struct (Tryz.prog.fieldsOf 97)) := by kernel_rfl
  have hp : Tryz.prog.stoodInHeld 97 = false := by kernel_rfl
  rw [run_eql_struct, show (10000 : Nat) = 9999 + 1 from rfl, run_equalIn_agg w 9999 97 _ _ hS hp]
  simp only [Program.fieldsOf, Tryz.underlying97]
  go_simp
  by_cases h1 : a = a' <;> by_cases h2 : b = b' <;> by_cases h3 : c = c' <;> simp [hdB, h1, h2, h3]
set_option maxHeartbeats 1000000 in
theorem lpoSame_any {a1 a2 : Nat} {x y : Hd} (w : World) (hP : PairR w bp P rk pc A H hc ml mf) (hx : H[a1]? = some x) (hy : H[a2]? = some y) :
    Calls Tryz.prog 45 #[.agg #[.pointer (some ⟨bp, 0, none⟩), .int .i64 (a1 : Int)], .agg #[.pointer (some ⟨bp, 0, none⟩), .int .i64 (a2 : Int)]] w fun e w' => e = .returned (.bool (hdB x y)) ∧ Below w.heap.size w w' := by
  obtain ⟨W, hW⟩ : ∃ W, (w.alloc (.cells #[.pointer (some ⟨bp, 0, none⟩), .int .i64 (a1 : Int)] 74)).alloc (.cells #[.pointer (some ⟨bp, 0, none⟩), .int .i64 (a2 : Int)] 74) = W := ⟨_, rfl⟩
  obtain ⟨q0, q1⟩ := heap2 w (.cells #[.pointer (some ⟨bp, 0, none⟩), .int .i64 (a1 : Int)] 74) (.cells #[.pointer (some ⟨bp, 0, none⟩), .int .i64 (a2 : Int)] 74)
  have hb : Below w.heap.size w W := by rw [← hW]; exact ((Below.refl _ _).alloc (Nat.le_refl _) _).alloc (by simp) _
  rw [hW] at q0 q1
  have hPW := hP.on hb
  have hlt := (Array.getElem?_eq_some_iff.1 q1).1
  obtain ⟨z0, z1, _, _⟩ := cells_two q0
  obtain ⟨y0, y1, _, _⟩ := cells_two q1
  have H1 := Lib.hid fun y : Later W.heap.size W => lpoHead_any y.w (hPW.on y.h) hx
  have H2 := Lib.hid fun z : Later W.heap.size W => lpoHead_any z.w (hPW.on z.h) hy
  have HW := Lib.hid hW
  have heq := run_eql_head x.fn x.sz x.no y.fn y.sz y.no
  have m0 : ∀ y : Later W.heap.size W, y.w.cell? ⟨w.heap.size, 0, none⟩ = some (.pointer (some ⟨bp, 0, none⟩)) := fun y => cell_on y.h (by omega) z0
  have m1 : ∀ y : Later W.heap.size W, y.w.cell? ⟨w.heap.size, 1, none⟩ = some (.int .i64 (a1 : Int)) := fun y => cell_on y.h (by omega) z1
  have m2 : ∀ y : Later W.heap.size W, y.w.cell? ⟨w.heap.size + 1, 0, none⟩ = some (.pointer (some ⟨bp, 0, none⟩)) := fun y => cell_on y.h hlt y0
  have m3 : ∀ y : Later W.heap.size W, y.w.cell? ⟨w.heap.size + 1, 1, none⟩ = some (.int .i64 (a2 : Int)) := fun y => cell_on y.h hlt y1
  clear hW q0 q1 hP hx hy hPW z0 z1 y0 y1 hlt
  go_enter Tryz.func45, Tryz.ntmps45
  go_upto_region 1 with fail
  rw [HW.out]
  refine wp_region_later W.heap.size W (by kernel_rfl) (by kernel_rfl) (bl_drewN (Below.refl _ _) 1) ?_
  repeat (go_big_quiet_step (first
    | (go_at_call 65; first
      | (with_reducible refine calls_later _ (Nat.le_refl _) (H1.out _))
      | (with_reducible refine calls_later _ (Nat.le_refl _) (H2.out _)))
    | fail))
  refine wpQuiet_nil ?_
  rintro _ ⟨z, rfl⟩
  clear m0 m1 m2 m3
  go_wp2
  go_ret
  exact ⟨rfl, hb.trans (z.h.mono hb.size)⟩
set_option maxHeartbeats 1000000 in
theorem lpoArgs_any {at' : Nat} {x : Hd} (w : World) (hP : PairR w bp P rk pc A H hc ml mf) (hx : H[at']? = some x) (h64 : I64 ((at' : Int) + x.sz)) :
    Calls Tryz.prog 101 #[.agg #[.pointer (some ⟨bp, 0, none⟩), .int .i64 (at' : Int)]] w fun e w' => e = .returned (.agg #[.pointer (some ⟨bp, 0, none⟩), .int .i64 ((at' : Int) + 1), .int .i64 ((at' : Int) + x.sz)]) ∧ Below w.heap.size w w' := by
  obtain ⟨W, hW⟩ : ∃ W, (w.alloc (.cells #[.pointer (some ⟨bp, 0, none⟩), .int .i64 (at' : Int)] 74)).alloc (.cells #[.pointer none, .int .i64 0, .int .i64 0] 137) = W := ⟨_, rfl⟩
  obtain ⟨q0, q1⟩ := heap2 w (.cells #[.pointer (some ⟨bp, 0, none⟩), .int .i64 (at' : Int)] 74) (.cells #[.pointer none, .int .i64 0, .int .i64 0] 137)
  have hb : Below w.heap.size w W := by rw [← hW]; exact ((Below.refl _ _).alloc (Nat.le_refl _) _).alloc (by simp) _
  rw [hW] at q0 q1
  have hPW := hP.on hb
  have hlt := (Array.getElem?_eq_some_iff.1 q1).1
  obtain ⟨z0, z1, _, _⟩ := cells_two q0
  obtain ⟨r0, r1, r2, f0, f1, f2⟩ := cells3 q1
  have hlx := (List.getElem?_eq_some_iff.1 hx).1
  have hl64 := hPW.hds.len
  have HW := Lib.hid hW
  have hw1 : IntKind.i64.wrap ((at' : Int) + 1) = (at' : Int) + 1 := by rw [IntKind.wrap_i64]; omega
  have HC := Lib.hid (lpoEnd_any W.drew (hPW.on (Below.refl _ _).drew) hx h64)
  have HQ := Lib.hid q1
  have HZ : Hid (∀ w1, Below W.heap.size W w1 → w1.cell? ⟨w.heap.size, 0, none⟩ = some (.pointer (some ⟨bp, 0, none⟩)) ∧ w1.cell? ⟨w.heap.size, 1, none⟩ = some (.int .i64 (at' : Int))) := Lib.hid fun w1 h => ⟨cell_on h (by omega) z0, cell_on h (by omega) z1⟩
  clear hW q0 q1 hP hx hPW
  go_enter Tryz.func101, Tryz.ntmps101
  go_upto_region 1 with fail
  rw [HW.out]
  go_region_law
    (first
      | (go_simp
         go_at_call 99
         refine HC.out.mono ?_
         rintro e w1 ⟨rfl, hb1⟩
         have hB1 : Below W.heap.size W w1 := ⟨hb1.os, hb1.tape, hb1.output, hb1.size, hb1.block⟩
         obtain ⟨k0, k1⟩ := HZ.out w1 hB1
         have q2 := (hB1.block _ hlt).trans HQ.out
         obtain ⟨s0, s1, s2, t0, t1, t2⟩ := cells3 q2
         dsimp only)
      | fail)
  all_goals
    obtain ⟨e0, e1, e2, _, _, _⟩ := cells3 (set3 (x' := .pointer (some ⟨bp, 0, none⟩)) (y' := .int .i64 ((at' : Int) + 1)) (z' := .int .i64 ((at' : Int) + x.sz)) q2)
    have hBe := below3 (x := .pointer (some ⟨bp, 0, none⟩)) (y := .int .i64 ((at' : Int) + 1)) (z := .int .i64 ((at' : Int) + x.sz)) (hb.trans (hB1.mono hb.size)) (show w.heap.size ≤ w.heap.size + 1 by omega)
    go_wp2
    exact bodyPost_ret (v := .agg #[.pointer (some ⟨bp, 0, none⟩), .int .i64 ((at' : Int) + 1), .int .i64 ((at' : Int) + x.sz)]) (by simp [results, Tryz.results101, go_sem, e0, e1, e2]) rfl ⟨rfl, hBe⟩
set_option maxHeartbeats 2000000 in
theorem lpoRest_any {fr to' : Nat} {x : Hd} (w : World) (hP : PairR w bp P rk pc A H hc ml mf) (hx : H[fr]? = some x) (h64 : I64 ((fr : Int) + x.sz)) (hlt0 : fr < to') :
    Calls Tryz.prog 106 #[.agg #[.pointer (some ⟨bp, 0, none⟩), .int .i64 (fr : Int), .int .i64 (to' : Int)]] w fun e w' => e = .returned (.agg #[.pointer (some ⟨bp, 0, none⟩), .int .i64 ((fr : Int) + x.sz), .int .i64 (to' : Int)]) ∧ Below w.heap.size w w' := by
  obtain ⟨W, hW⟩ : ∃ W, (w.alloc (.cells #[.pointer (some ⟨bp, 0, none⟩), .int .i64 (fr : Int), .int .i64 (to' : Int)] 137)).alloc (.cells #[.pointer none, .int .i64 0, .int .i64 0] 137) = W := ⟨_, rfl⟩
  obtain ⟨q0, q1⟩ := heap2 w (.cells #[.pointer (some ⟨bp, 0, none⟩), .int .i64 (fr : Int), .int .i64 (to' : Int)] 137) (.cells #[.pointer none, .int .i64 0, .int .i64 0] 137)
  have hb : Below w.heap.size w W := by rw [← hW]; exact ((Below.refl _ _).alloc (Nat.le_refl _) _).alloc (by simp) _
  rw [hW] at q0 q1
  have hPW := hP.on hb
  have hlt := (Array.getElem?_eq_some_iff.1 q1).1
  obtain ⟨z0, z1, z2, _, _, _⟩ := cells3 q0
  have HW := Lib.hid hW
  have hdec : decide ((to' : Int) ≤ (fr : Int)) = false := decide_eq_false (by omega)
  have hE := lpoEmpty_any (fr : Int) (to' : Int) (.pointer (some ⟨bp, 0, none⟩)) W
  rw [hdec] at hE
  have HE := Lib.hid hE
  have HQ := Lib.hid q1
  have HPW := Lib.hid hPW
  have HZ : Hid (∀ w1, Below W.heap.size W w1 → w1.cell? ⟨w.heap.size, 0, none⟩ = some (.pointer (some ⟨bp, 0, none⟩)) ∧ w1.cell? ⟨w.heap.size, 1, none⟩ = some (.int .i64 (fr : Int)) ∧ w1.cell? ⟨w.heap.size, 2, none⟩ = some (.int .i64 (to' : Int))) := Lib.hid fun w1 h => ⟨cell_on h (by omega) z0, cell_on h (by omega) z1, cell_on h (by omega) z2⟩
  have Hx := Lib.hid hx
  clear hW q0 q1 hP hx hPW hE hdec
  go_enter Tryz.func106, Tryz.ntmps106
  go_upto_region 1 with fail
  rw [HW.out]
  go_upto_region 3 with (first
    | (go_at_call 104; go_must ((with_reducible refine HE.out.mono ?_); rintro e w0 ⟨rfl, hb0⟩; obtain ⟨y0, y1, y2⟩ := HZ.out w0 hb0))
    | fail)
  have q2 := (hb0.block _ hlt).trans HQ.out
  obtain ⟨r0, r1, r2, f0, f1, f2⟩ := cells3 q2
  have HQ0 := Lib.hid q2
  have hlt2 : w.heap.size + 1 < w0.heap.size := Nat.lt_of_lt_of_le hlt hb0.size
  have HF := Lib.hid (lpoFirst_any (bp := bp) (fr : Int) (to' : Int) w0.drew)
  have HEn : Hid (∀ w1, Below w0.heap.size w0 w1 → Calls Tryz.prog 99 #[.agg #[.pointer (some ⟨bp, 0, none⟩), .int .i64 (fr : Int)]] w1 fun e w' => e = .returned (.int .i64 ((fr : Int) + x.sz)) ∧ Below w1.heap.size w1 w') := Lib.hid fun w1 h => lpoEnd_any w1 (HPW.out.on (hb0.trans (h.mono hb0.size))) Hx.out h64
  clear q2 z0 z1 z2
  go_region_law
    (first
      | (go_simp
         go_at_call 105
         refine HF.out.mono ?_
         rintro e w1 ⟨rfl, hb1⟩
         have hB1 : Below w0.heap.size w0 w1 := ⟨hb1.os, hb1.tape, hb1.output, hb1.size, hb1.block⟩
         obtain ⟨k0, k1, k2⟩ := HZ.out w1 (hb0.trans (hB1.mono hb0.size))
         have q3 := (hB1.block _ hlt2).trans HQ0.out
         obtain ⟨s0, s1, s2, t0, t1, t2⟩ := cells3 q3
         dsimp only)
      | (go_simp
         go_at_call 99
         refine (HEn.out w1 hB1).mono ?_
         rintro e w2 ⟨rfl, hb2⟩
         have hB2 := hB1.trans (hb2.mono hB1.size)
         obtain ⟨j0, j1, j2⟩ := HZ.out w2 (hb0.trans (hB2.mono hb0.size))
         have q4 := (hB2.block _ hlt2).trans HQ0.out
         obtain ⟨g0, g1, g2, u0, u1, u2⟩ := cells3 q4
         dsimp only)
      | fail)
  all_goals
    obtain ⟨e0, e1, e2, _, _, _⟩ := cells3 (set3 (x' := .pointer (some ⟨bp, 0, none⟩)) (y' := .int .i64 ((fr : Int) + x.sz)) (z' := .int .i64 (to' : Int)) q4)
    have hBe := below3 (x := .pointer (some ⟨bp, 0, none⟩)) (y := .int .i64 ((fr : Int) + x.sz)) (z := .int .i64 (to' : Int)) (hb.trans ((hb0.trans (hB2.mono hb0.size)).mono hb.size)) (show w.heap.size ≤ w.heap.size + 1 by omega)
    go_wp2
    exact bodyPost_ret (v := .agg #[.pointer (some ⟨bp, 0, none⟩), .int .i64 ((fr : Int) + x.sz), .int .i64 (to' : Int)]) (by simp [results, Tryz.results106, go_sem, e0, e1, e2]) rfl ⟨rfl, hBe⟩
end
end Go.Proofs.YthgglobfkkcdgaaGreat
