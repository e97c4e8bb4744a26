/- put: what stands for the variables is put in, anew each time. -/
import Derived.Test.YtfkefogmpmcfeaaU9
namespace Go.Proofs.Ytfkefogmpmcfeaa
open Go.RowKit Go.Shelf
set_option maxRecDepth 100000

mutual
def appT (g : Int → Option Tm) : Tm → Tm
  | .node f xs => (if f < 0 then g (-1 - f) else none).getD (.node f (appL g xs))
def appL (g : Int → Option Tm) : List Tm → List Tm
  | [] => []
  | t :: ts => appT g t :: appL g ts
end
theorem appL_eq (g : Int → Option Tm) : ∀ xs : List Tm, appL g xs = xs.map (appT g)
  | [] => by simp only [appL, List.map_nil]
  | t :: ts => by simp only [appL, appL_eq g ts, List.map_cons]
/-- What is put in for a variable. -/
def bdT (l : List Bd) (v : Int) : Option Tm := (findB l v).map Bd.t

/-- The binds, in blocks under B0, and the box that holds them. -/
structure PutC (l : List Bd) (A : Option Addr) (c bs B0 : Nat) (w : World) : Prop where
  len : l.length ≤ 4611686018427387904
  binds : Binds w (· < B0) A l
  rise : Rise l
  small : ∀ x ∈ l, x.t.size ≤ 4398046511104
  lt : bs < B0
  box : Boxed w bs 23 (.slice A l.length c)
theorem PutC.keep {l : List Bd} {A : Option Addr} {c bs B0 : Nat} {w w' : World} (h : PutC l A c bs B0 w) (hk : Keeps (· < B0) w w') : PutC l A c bs B0 w' :=
  ⟨h.len, h.binds.keep fun g e => hk.block g e, h.rise, h.small, h.lt, (hk.block _ h.lt).trans h.box⟩

/-- A term of memory of its own. -/
def NewPost (t : Tm) (w : World) (e : Ending) (w' : World) : Prop :=
  ∃ A' c', e = .returned (.agg #[.int .i64 t.fn, .slice A' t.args.length c']) ∧ I64 t.fn ∧ OwnT w' w.heap.size w'.heap.size A' t.args ∧ Below w.heap.size w w'
def PutAt (l : List Bd) (A : Option Addr) (c bs B0 : Nat) (t : Tm) : Prop :=
  t.size ≤ 4398046511104 → ∀ (At : Option Addr) (ct : Nat) (w : World), B0 ≤ w.heap.size → PutC l A c bs B0 w → I64 t.fn → Args w w.heap.size At t.args →
    Calls Try.prog 65 #[.agg #[.int .i64 t.fn, .slice At t.args.length ct], .func (.func 98) #[] #[.pointer (some ⟨bs, 0, none⟩)]] w (NewPost (appT (bdT l) t) w)

set_option maxHeartbeats 1000000 in
theorem put1_any (l : List Bd) (A : Option Addr) (c bs B0 : Nat) (t : Tm) (hsz : t.size ≤ 4398046511104) (hrec : PutAt l A c bs B0 t) (At : Option Addr) (ct bx : Nat) (W : World) (hB0 : B0 ≤ W.heap.size) (hb : Boxed W bx 83 (.func (.func 98) #[] #[.pointer (some ⟨bs, 0, none⟩)])) (hs : PutC l A c bs B0 W) (hf : I64 t.fn) (hA : Args W W.heap.size At t.args) :
    Calls Try.prog 106 #[.agg #[.int .i64 t.fn, .slice At t.args.length ct], .pointer (some ⟨bx, 0, none⟩)] W (NewPost (appT (bdT l) t) W) := by
  obtain ⟨q0, q1⟩ := heap2 W (.cells #[.int .i64 t.fn, .slice At t.args.length ct] 31) (.cells #[.int .i64 0, .slice none 0 0] 31)
  obtain ⟨W2, hW2⟩ : ∃ W2, ((W.alloc (.cells #[.int .i64 t.fn, .slice At t.args.length ct] 31)).alloc (.cells #[.int .i64 0, .slice none 0 0] 31)) = W2 := ⟨_, rfl⟩
  have hB : Below W.heap.size W W2 := by rw [← hW2]; exact ((Below.refl _ _).alloc (Nat.le_refl _) _).alloc (by simp) _
  rw [hW2] at q0 q1
  have hWs : W.heap.size + 1 < W2.heap.size := (Array.getElem?_eq_some_iff.1 q1).1
  have hcb := Boxed.cell (show Boxed W2 bx _ _ from (hB.block _ hb.lt).trans hb)
  have hrec' := Lib.hid (hrec hsz At ct W2 (by omega) (hs.keep ((Keeps.of_below hB).mono fun g e => by show g < W.heap.size; omega)) hf (hA.on hB))
  have HW := Lib.hid hW2
  obtain ⟨a0, a1, _, _⟩ := cells_two q0
  clear hW2 hA hs hrec
  go_enter Try.func106, Try.ntmps106
  go_upto_region 1 with fail
  rw [HW.out]
  go_wp2_with (first
    | (go_at_call 65; refine hrec'.out.mono ?_; go_must (rintro e w3 ⟨A3, c3, rfl, hi3, hO3, hk3⟩; have y3 := (hk3.block _ hWs).trans q1; obtain ⟨b0, b1, g0, g1⟩ := cells_two y3; have hO3 := Lib.hid hO3))
    | fail)
  obtain ⟨z0, z1⟩ := set2_two (u := .int .i64 (appT (bdT l) t).fn) (v := .slice A3 (appT (bdT l) t).args.length c3) y3
  have p0 := (cells_two z0).1
  have p1 := (cells_two z1).2.1
  have hoth : ∀ g, g ≠ W.heap.size + 1 → ((w3.setCell ⟨W.heap.size + 1, 0, none⟩ (.int .i64 (appT (bdT l) t).fn)).setCell ⟨W.heap.size + 1, 1, none⟩ (.slice A3 (appT (bdT l) t).args.length c3)).heap[g]? = w3.heap[g]? := fun g e => (heap_setCell_other _ _ _ _ e).trans (heap_setCell_other _ _ _ _ e)
  refine bodyPost_ret (v := .agg #[.int .i64 (appT (bdT l) t).fn, .slice A3 (appT (bdT l) t).args.length c3]) (by simp [results, Try.results106, go_sem, p0, p1]) rfl ⟨A3, c3, rfl, hi3, ?_, ?_⟩
  · exact OwnT.wide (lo := W2.heap.size) (hi := w3.heap.size) (hO3.out.keep fun g h1 _ => hoth g (by omega)) (by omega) (by simp)
  · exact ((hB.trans (hk3.mono (by omega))).setCell (by show _ ≤ W.heap.size + 1; omega) _).setCell (by show _ ≤ W.heap.size + 1; omega) _
end Go.Proofs.Ytfkefogmpmcfeaa
