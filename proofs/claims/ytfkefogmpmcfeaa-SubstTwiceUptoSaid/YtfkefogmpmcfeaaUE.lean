/- put: what stands for the variables is put in, anew each time. put, at binds that rise. putter and Apply. -/
import Derived.Test.YtfkefogmpmcfeaaUF
namespace Go.Proofs.Ytfkefogmpmcfeaa
open Go.RowKit Go.Shelf
set_option maxRecDepth 100000

mutual
def appT (g : Int → Option Tm) : Tm → Tm
  | .node f xs => (if f < 0 then g (-1 - f) else none).getD (.node f (appL g xs))
def appL (g : Int → Option Tm) : List Tm → List Tm
  | [] => []
  | t :: ts => appT g t :: appL g ts
end
theorem appL_eq (g : Int → Option Tm) : ∀ xs : List Tm, appL g xs = xs.map (appT g)
  | [] => by simp only [appL, List.map_nil]
  | t :: ts => by simp only [appL, appL_eq g ts, List.map_cons]
/-- What is put in for a variable. -/
def bdT (l : List Bd) (v : Int) : Option Tm := (findB l v).map Bd.t

/-- The binds, in blocks under B0, and the box that holds them. -/
structure PutC (l : List Bd) (A : Option Addr) (c bs B0 : Nat) (w : World) : Prop where
  len : l.length ≤ 4611686018427387904
  binds : Binds w (· < B0) A l
  rise : Rise l
  small : ∀ x ∈ l, x.t.size ≤ 4398046511104
  lt : bs < B0
  box : Boxed w bs 23 (.slice A l.length c)
theorem PutC.keep {l : List Bd} {A : Option Addr} {c bs B0 : Nat} {w w' : World} (h : PutC l A c bs B0 w) (hk : Keeps (· < B0) w w') : PutC l A c bs B0 w' :=
  ⟨h.len, h.binds.keep fun g e => hk.block g e, h.rise, h.small, h.lt, (hk.block _ h.lt).trans h.box⟩

/-- A term of memory of its own. -/
def NewPost (t : Tm) (w : World) (e : Ending) (w' : World) : Prop :=
  ∃ A' c', e = .returned (.agg #[.int .i64 t.fn, .slice A' t.args.length c']) ∧ I64 t.fn ∧ OwnT w' w.heap.size w'.heap.size A' t.args ∧ Below w.heap.size w w'
def PutAt (l : List Bd) (A : Option Addr) (c bs B0 : Nat) (t : Tm) : Prop :=
  t.size ≤ 4398046511104 → ∀ (At : Option Addr) (ct : Nat) (w : World), B0 ≤ w.heap.size → PutC l A c bs B0 w → I64 t.fn → Args w w.heap.size At t.args →
    Calls Try.prog 65 #[.agg #[.int .i64 t.fn, .slice At t.args.length ct], .func (.func 98) #[] #[.pointer (some ⟨bs, 0, none⟩)]] w (NewPost (appT (bdT l) t) w)

set_option maxHeartbeats 1000000 in
theorem put1_any (l : List Bd) (A : Option Addr) (c bs B0 : Nat) (t : Tm) (hsz : t.size ≤ 4398046511104) (hrec : PutAt l A c bs B0 t) (At : Option Addr) (ct bx : Nat) (W : World) (hB0 : B0 ≤ W.heap.size) (hb : Boxed W bx 83 (.func (.func 98) #[] #[.pointer (some ⟨bs, 0, none⟩)])) (hs : PutC l A c bs B0 W) (hf : I64 t.fn) (hA : Args W W.heap.size At t.args) :
    Calls Try.prog 106 #[.agg #[.int .i64 t.fn, .slice At t.args.length ct], .pointer (some ⟨bx, 0, none⟩)] W (NewPost (appT (bdT l) t) W) := by
  obtain ⟨q0, q1⟩ := heap2 W (.cells #[.int .i64 t.fn, .slice At t.args.length ct] 31) (.cells #[.int .i64 0, .slice none 0 0] 31)
  obtain ⟨W2, hW2⟩ : ∃ W2, ((W.alloc (.cells #[.int .i64 t.fn, .slice At t.args.length ct] 31)).alloc (.cells #[.int .i64 0, .slice none 0 0] 31)) = W2 := ⟨_, rfl⟩
  have hB : Below W.heap.size W W2 := by rw [← hW2]; exact ((Below.refl _ _).alloc (Nat.le_refl _) _).alloc (by simp) _
  rw [hW2] at q0 q1
  have hWs : W.heap.size + 1 < W2.heap.size := (Array.getElem?_eq_some_iff.1 q1).1
  have hcb := Boxed.cell (show Boxed W2 bx _ _ from (hB.block _ hb.lt).trans hb)
  have hrec' := Lib.hid (hrec hsz At ct W2 (by omega) (hs.keep ((Keeps.of_below hB).mono fun g e => by show g < W.heap.size; omega)) hf (hA.on hB))
  have HW := Lib.hid hW2
  obtain ⟨a0, a1, _, _⟩ := cells_two q0
  clear hW2 hA hs hrec
  go_enter Try.func106, Try.ntmps106
  go_upto_region 1 with fail
  rw [HW.out]
  go_wp2_with (first
    | (go_at_call 65; refine hrec'.out.mono ?_; go_must (rintro e w3 ⟨A3, c3, rfl, hi3, hO3, hk3⟩; have y3 := (hk3.block _ hWs).trans q1; obtain ⟨b0, b1, g0, g1⟩ := cells_two y3; have hO3 := Lib.hid hO3))
    | fail)
  obtain ⟨z0, z1⟩ := set2_two (u := .int .i64 (appT (bdT l) t).fn) (v := .slice A3 (appT (bdT l) t).args.length c3) y3
  have p0 := (cells_two z0).1
  have p1 := (cells_two z1).2.1
  have hoth : ∀ g, g ≠ W.heap.size + 1 → ((w3.setCell ⟨W.heap.size + 1, 0, none⟩ (.int .i64 (appT (bdT l) t).fn)).setCell ⟨W.heap.size + 1, 1, none⟩ (.slice A3 (appT (bdT l) t).args.length c3)).heap[g]? = w3.heap[g]? := fun g e => (heap_setCell_other _ _ _ _ e).trans (heap_setCell_other _ _ _ _ e)
  refine bodyPost_ret (v := .agg #[.int .i64 (appT (bdT l) t).fn, .slice A3 (appT (bdT l) t).args.length c3]) (by simp [results, Try.results106, go_sem, p0, p1]) rfl ⟨A3, c3, rfl, hi3, ?_, ?_⟩
  · exact OwnT.wide (lo := W2.heap.size) (hi := w3.heap.size) (hO3.out.keep fun g h1 _ => hoth g (by omega)) (by omega) (by simp)
  · exact ((hB.trans (hk3.mono (by omega))).setCell (by show _ ≤ W.heap.size + 1; omega) _).setCell (by show _ ≤ W.heap.size + 1; omega) _
end Go.Proofs.Ytfkefogmpmcfeaa

namespace Go.Proofs.Ytfkefogmpmcfeaa
open Go.RowKit Go.Shelf
set_option maxRecDepth 100000

theorem put_fin {y : Tm} {A3 : Option Addr} {c3 n : Nat} {w w1 w3 : World} (hb : Below w.heap.size w w1) (hk : Below w1.heap.size w1 w3) (hO : OwnT w3 w1.heap.size w3.heap.size A3 y.args) (hi : I64 y.fn) (hn1 : w.heap.size ≤ n) (hn2 : n < w1.heap.size) :
    NewPost y w (.returned (.agg #[.int .i64 y.fn, .slice A3 y.args.length c3])) ((w3.setCell ⟨n, 0, none⟩ (.int .i64 y.fn)).setCell ⟨n, 1, none⟩ (.slice A3 y.args.length c3)) := by
  have hoth : ∀ g, g ≠ n → ((w3.setCell ⟨n, 0, none⟩ (.int .i64 y.fn)).setCell ⟨n, 1, none⟩ (.slice A3 y.args.length c3)).heap[g]? = w3.heap[g]? := fun g e => (heap_setCell_other _ _ _ _ e).trans (heap_setCell_other _ _ _ _ e)
  have hs := hb.size
  exact ⟨A3, c3, rfl, hi, OwnT.wide (lo := w1.heap.size) (hi := w3.heap.size) (hO.keep fun g h1 _ => hoth g (by omega)) (by omega) (by simp), ((hb.trans (hk.mono hs)).setCell (by show _ ≤ n; omega) _).setCell (by show _ ≤ n; omega) _⟩

set_option maxHeartbeats 2000000 in
theorem put_any (l : List Bd) (A : Option Addr) (c bs B0 : Nat) (t : Tm) : PutAt l A c bs B0 t := by
  refine Tm.ind (P := PutAt l A c bs B0) (fun f xs ih => ?_) t
  intro hsz At ct w hB0 hs hf hA
  simp only [Tm.fn, Tm.args] at hf hA ⊢
  have hlen : xs.length ≤ 4398046511104 := by have := sizes_len xs; simp only [Tm.size] at hsz; omega
  obtain ⟨q0, q1, q2⟩ := heap3 w (.cells #[.int .i64 f, .slice At xs.length ct] 31) (.cells #[.func (.func 98) #[] #[.pointer (some ⟨bs, 0, none⟩)]] 83) (.cells #[.int .i64 0, .slice none 0 0] 31)
  obtain ⟨W, hW⟩ : ∃ W, (((w.alloc (.cells #[.int .i64 f, .slice At xs.length ct] 31)).alloc (.cells #[.func (.func 98) #[] #[.pointer (some ⟨bs, 0, none⟩)]] 83)).alloc (.cells #[.int .i64 0, .slice none 0 0] 31)) = W := ⟨_, rfl⟩
  have hB : Below w.heap.size w W := by rw [← hW]; exact (((Below.refl _ _).alloc (Nat.le_refl _) _).alloc (by simp) _).alloc (by simp; omega) _
  rw [hW] at q0 q1 q2
  have hWs : w.heap.size + 2 < W.heap.size := (Array.getElem?_eq_some_iff.1 q2).1
  have HW := Lib.hid hW
  have HA := Lib.hid (hA.on hB)
  have hsW := Lib.hid (hs.keep ((Keeps.of_below hB).mono fun g e => by show g < w.heap.size; omega))
  obtain ⟨a0, a1, _, _⟩ := cells_two q0
  have hcn := Boxed.cell (show Boxed W (w.heap.size + 1) _ _ from q1)
  clear hW hA hs
  have key : ∀ (W1 : World), Below W.heap.size W W1 → Calls Try.prog 105 #[.slice At xs.length ct, .func (.func 106) #[] #[.pointer (some ⟨w.heap.size + 1, 0, none⟩)]] W1 fun e w' => ∃ A' c', e = .returned (.slice A' (appL (bdT l) xs).length c') ∧ OwnT w' W1.heap.size w'.heap.size A' (appL (bdT l) xs) ∧ Below W1.heap.size W1 w' := by
    intro W1 hb1
    have hz1 := hb1.size
    have hyl : xs.length = (appL (bdT l) xs).length := by rw [appL_eq, List.length_map]
    refine (eachT_any 106 (enters_of Try.func106 (by kernel_rfl) rfl) (.pointer (some ⟨w.heap.size + 1, 0, none⟩)) (fun _ => False) (· < W.heap.size) (· < W.heap.size) (fun _ Wi => PutC l A c bs B0 Wi ∧ Boxed Wi (w.heap.size + 1) 83 (.func (.func 98) #[] #[.pointer (some ⟨bs, 0, none⟩)])) xs (appL (bdT l) xs) At ct W1 (by omega) hyl
      (HA.out.toN.keep fun g e => hb1.block g e) (fun g e => Nat.lt_of_lt_of_le e hz1) (fun _ _ e => e) (fun _ e => e.elim) (fun g e => Nat.lt_of_lt_of_le e hz1) (fun i Wa Wb h hk => ⟨h.1.keep (hk.mono fun g e => by show g < W.heap.size; omega), (hk.block _ (by show _ < W.heap.size; omega)).trans h.2⟩)
      ⟨hsW.out.keep ((Keeps.of_below hb1).mono fun g e => by show g < W.heap.size; omega), (hb1.block _ (by omega)).trans q1⟩ ?_).mono ?_
    · intro i t y A' c' Wi ht hy hsz1 _ hIi hi64 hAi
      obtain rfl : y = appT (bdT l) t := by rw [appL_eq, List.getElem?_map, ht] at hy; simpa using hy.symm
      have hmem := List.mem_of_getElem? ht
      have hts : t.size ≤ 4398046511104 := by have := size_mem hmem; simp only [Tm.size] at hsz; omega
      refine (put1_any l A c bs B0 t hts (ih t hmem) A' c' (w.heap.size + 1) Wi (by omega) hIi.2 hIi.1 hi64 (hAi.args fun g e => Nat.lt_of_lt_of_le e (by omega))).mono ?_
      rintro e w' ⟨A2, c2, rfl, h1, h2, h3⟩
      exact ⟨A2, c2, rfl, h1, h2, ⟨hIi.1.keep ((Keeps.of_below h3).mono fun g e => by show g < Wi.heap.size; omega), (h3.block _ hIi.2.lt).trans hIi.2⟩, KeepsC.of_below h3⟩
    · rintro e w' ⟨A', c', rfl, h1, h2, h3⟩
      exact ⟨A', c', rfl, h1, h3.none⟩
  have hkey := Lib.hid key
  clear key ih
  have hlo := hf.1
  have hhi := hf.2
  by_cases hneg : f < 0
  · have hfind := Lib.hid (finder1_any l (-1 - f) A c bs W hsW.out.len (hsW.out.binds.wide fun g e => by show g < W.heap.size; omega) hsW.out.rise hsW.out.box)
    rcases hfo : findB l (-1 - f) with _ | x
    · have happ : appT (bdT l) (.node f xs) = .node f (appL (bdT l) xs) := by simp only [appT, if_pos hneg, bdT, hfo, Option.map_none, Option.getD_none]
      rw [happ]
      have hSS : ∀ w', Below (w.heap.size + 1) W w' → w'.cell? ⟨w.heap.size, 0, none⟩ = some (.int .i64 f) ∧ w'.cell? ⟨w.heap.size, 1, none⟩ = some (.slice At xs.length ct) := fun w' hb => ⟨cell_on hb (by omega) a0, cell_on hb (by omega) a1⟩
      have hfo := Lib.hid hfo
      clear happ
      go_enter Try.func65, Try.ntmps65
      go_upto_region 1 with fail
      rw [HW.out]
      go_wp2_with (first
        | ((with_reducible refine hfind.out.mono ?_); go_must (rintro e w1 ⟨hb1, he⟩; rw [hfo.out] at he; obtain rfl := he; have hz := (Below.refl w1.heap.size w1).alloc (Nat.le_refl _) (Obj.cells #[.int .i64 0, .slice none 0 0] 31); obtain ⟨p0, p1, _, _⟩ := cells_two (heap_alloc_new w1 (Obj.cells #[.int .i64 0, .slice none 0 0] 31)); have hbW := hb1.trans (hz.mono hb1.size); obtain ⟨e0, e1⟩ := hSS _ (hbW.mono (by omega)); have y1 := (hbW.block _ hWs).trans q2))
        | fail)
      go_region_held3 (fun w' => w'.cell? ⟨w.heap.size, 0, none⟩ = some (.int .i64 f) ∧ w'.cell? ⟨w.heap.size, 1, none⟩ = some (.slice At xs.length ct))
        (first | exact ⟨e0, e1⟩ | exact hSS _ (hB1.mono (by omega)) | exact hSS _ (((hB1.mono (by omega)).setCell (by show w.heap.size + 1 ≤ w.heap.size + 1 + 1; omega) _).setCell (by show w.heap.size + 1 ≤ w.heap.size + 1 + 1; omega) _) | fail)
        (first
          | (go_at_call 105; refine (hkey.out (w1.alloc (Obj.cells #[.int .i64 0, .slice none 0 0] 31)).drew ⟨hbW.os, hbW.tape, hbW.output, hbW.size, hbW.block⟩).mono ?_; go_must (rintro e w3 ⟨A3, c3, rfl, hO3, hk3⟩; have hB3 : Below (w1.alloc (Obj.cells #[.int .i64 0, .slice none 0 0] 31)).heap.size (w1.alloc (Obj.cells #[.int .i64 0, .slice none 0 0] 31)) w3 := ⟨hk3.os, hk3.tape, hk3.output, hk3.size, hk3.block⟩; have hB1 := hbW.trans (hB3.mono hbW.size); have y3 := (hB1.block _ hWs).trans q2; obtain ⟨d0, d1, g0, g1⟩ := cells_two y3; have hO3 := Lib.hid hO3))
          | fail)
      go_wp2
      obtain ⟨z0, z1⟩ := set2_two (u := .int .i64 f) (v := .slice A3 (appL (bdT l) xs).length c3) y3
      have k0 := (cells_two z0).1
      have k1 := (cells_two z1).2.1
      exact bodyPost_ret (v := .agg #[.int .i64 f, .slice A3 (appL (bdT l) xs).length c3]) (by simp [results, Try.results65, go_sem, k0, k1]) rfl (put_fin (y := .node f (appL (bdT l) xs)) (hB.trans (hbW.mono hB.size)) hB3 hO3.out hf (by omega) (Nat.lt_of_lt_of_le hWs hbW.size))
    · have happ : appT (bdT l) (.node f xs) = x.t := by simp only [appT, if_pos hneg, bdT, hfo, Option.map_some, Option.getD_some]
      rw [happ]
      have hxs := hsW.out.small x (List.mem_of_find?_eq_some hfo)
      have hfo := Lib.hid hfo
      clear happ
      go_enter Try.func65, Try.ntmps65
      go_upto_region 1 with fail
      rw [HW.out]
      go_wp2_with (first
        | (go_at_call 54; refine (subClone_any x.t hxs A' c' _ hit.out ((hsub.out.on hb1).on hz)).mono ?_; go_must (rintro e w3 ⟨A3, c3, rfl, hO3, hk3⟩; have y3 := (hk3.block _ (Array.getElem?_eq_some_iff.1 y1).1).trans y1; obtain ⟨d0, d1, g0, g1⟩ := cells_two y3; have hO3 := Lib.hid hO3))
        | ((with_reducible refine hfind.out.mono ?_); go_must (rintro e w1 ⟨hb1, he⟩; rw [hfo.out] at he; obtain ⟨A', c', rfl, hit, hsub⟩ := he; have hit := Lib.hid hit; have hsub := Lib.hid hsub; have hz := (Below.refl w1.heap.size w1).alloc (Nat.le_refl _) (Obj.cells #[.int .i64 x.t.fn, .slice A' x.t.args.length c'] 31); obtain ⟨p0, p1, _, _⟩ := cells_two (heap_alloc_new w1 (Obj.cells #[.int .i64 x.t.fn, .slice A' x.t.args.length c'] 31)); have y1 := alloc_old (o := Obj.cells #[.int .i64 x.t.fn, .slice A' x.t.args.length c'] 31) ((hb1.block _ hWs).trans q2)))
        | fail)
      obtain ⟨z0, z1⟩ := set2_two (u := .int .i64 x.t.fn) (v := .slice A3 x.t.args.length c3) y3
      have k0 := (cells_two z0).1
      have k1 := (cells_two z1).2.1
      exact bodyPost_ret (v := .agg #[.int .i64 x.t.fn, .slice A3 x.t.args.length c3]) (by simp [results, Try.results65, go_sem, k0, k1]) rfl (put_fin ((hB.trans (hb1.mono hB.size)).trans (hz.mono (by have := hb1.size; omega))) hk3 hO3.out hit.out (by omega) (Array.getElem?_eq_some_iff.1 y1).1)
  · have happ : appT (bdT l) (.node f xs) = .node f (appL (bdT l) xs) := by simp only [appT, if_neg hneg, Option.getD_none]
    rw [happ]
    have hSS : ∀ w', Below (w.heap.size + 1) W w' → w'.cell? ⟨w.heap.size, 0, none⟩ = some (.int .i64 f) ∧ w'.cell? ⟨w.heap.size, 1, none⟩ = some (.slice At xs.length ct) := fun w' hb => ⟨cell_on hb (by omega) a0, cell_on hb (by omega) a1⟩
    clear happ
    go_enter Try.func65, Try.ntmps65
    go_upto_region 1 with fail
    rw [HW.out]
    go_wp2
    go_region_held3 (fun w' => w'.cell? ⟨w.heap.size, 0, none⟩ = some (.int .i64 f) ∧ w'.cell? ⟨w.heap.size, 1, none⟩ = some (.slice At xs.length ct))
      (first | exact ⟨a0, a1⟩ | exact hSS _ (hB1.mono (by omega)) | exact hSS _ (((hB1.mono (by omega)).setCell (by show w.heap.size + 1 ≤ w.heap.size + 1 + 1; omega) _).setCell (by show w.heap.size + 1 ≤ w.heap.size + 1 + 1; omega) _) | fail)
      (first
        | (go_at_call 105; refine (hkey.out W.drew ⟨rfl, rfl, rfl, Nat.le_refl _, fun _ _ => rfl⟩).mono ?_; go_must (rintro e w3 ⟨A3, c3, rfl, hO3, hk3⟩; have hB1 : Below W.heap.size W w3 := ⟨hk3.os, hk3.tape, hk3.output, hk3.size, hk3.block⟩; have y3 := (hB1.block _ hWs).trans q2; obtain ⟨d0, d1, g0, g1⟩ := cells_two y3; have hO3 := Lib.hid hO3))
        | fail)
    go_wp2
    obtain ⟨z0, z1⟩ := set2_two (u := .int .i64 f) (v := .slice A3 (appL (bdT l) xs).length c3) y3
    have k0 := (cells_two z0).1
    have k1 := (cells_two z1).2.1
    exact bodyPost_ret (v := .agg #[.int .i64 f, .slice A3 (appL (bdT l) xs).length c3]) (by simp [results, Try.results65, go_sem, k0, k1]) rfl (put_fin (y := .node f (appL (bdT l) xs)) hB hB1 hO3.out hf (by omega) hWs)
end Go.Proofs.Ytfkefogmpmcfeaa

namespace Go.Proofs.Ytfkefogmpmcfeaa
open Go.RowKit Go.Shelf
set_option maxRecDepth 100000

set_option maxHeartbeats 1000000 in
theorem putter1_any (l : List Bd) (A : Option Addr) (c bs B0 : Nat) (t : Tm) (hsz : t.size ≤ 4398046511104) (At : Option Addr) (ct bx : Nat) (W : World) (hB0 : B0 ≤ W.heap.size) (hb : Boxed W bx 83 (.func (.func 98) #[] #[.pointer (some ⟨bs, 0, none⟩)])) (hs : PutC l A c bs B0 W) (hf : I64 t.fn) (hA : Args W W.heap.size At t.args) :
    Calls Try.prog 104 #[.agg #[.int .i64 t.fn, .slice At t.args.length ct], .pointer (some ⟨bx, 0, none⟩)] W (NewPost (appT (bdT l) t) W) := by
  obtain ⟨q0, q1⟩ := heap2 W (.cells #[.int .i64 t.fn, .slice At t.args.length ct] 31) (.cells #[.int .i64 0, .slice none 0 0] 31)
  obtain ⟨W2, hW2⟩ : ∃ W2, ((W.alloc (.cells #[.int .i64 t.fn, .slice At t.args.length ct] 31)).alloc (.cells #[.int .i64 0, .slice none 0 0] 31)) = W2 := ⟨_, rfl⟩
  have hB : Below W.heap.size W W2 := by rw [← hW2]; exact ((Below.refl _ _).alloc (Nat.le_refl _) _).alloc (by simp) _
  rw [hW2] at q0 q1
  have hWs : W.heap.size + 1 < W2.heap.size := (Array.getElem?_eq_some_iff.1 q1).1
  have hcb := Boxed.cell (show Boxed W2 bx _ _ from (hB.block _ hb.lt).trans hb)
  have hrec' := Lib.hid (put_any l A c bs B0 t hsz At ct W2 (by omega) (hs.keep ((Keeps.of_below hB).mono fun g e => by show g < W.heap.size; omega)) hf (hA.on hB))
  have HW := Lib.hid hW2
  obtain ⟨a0, a1, _, _⟩ := cells_two q0
  clear hW2 hA hs
  go_enter Try.func104, Try.ntmps104
  go_upto_region 1 with fail
  rw [HW.out]
  go_wp2_with (first
    | (go_at_call 65; refine hrec'.out.mono ?_; go_must (rintro e w3 ⟨A3, c3, rfl, hi3, hO3, hk3⟩; have y3 := (hk3.block _ hWs).trans q1; obtain ⟨b0, b1, g0, g1⟩ := cells_two y3; have hO3 := Lib.hid hO3))
    | fail)
  obtain ⟨z0, z1⟩ := set2_two (u := .int .i64 (appT (bdT l) t).fn) (v := .slice A3 (appT (bdT l) t).args.length c3) y3
  have p0 := (cells_two z0).1
  have p1 := (cells_two z1).2.1
  have hoth : ∀ g, g ≠ W.heap.size + 1 → ((w3.setCell ⟨W.heap.size + 1, 0, none⟩ (.int .i64 (appT (bdT l) t).fn)).setCell ⟨W.heap.size + 1, 1, none⟩ (.slice A3 (appT (bdT l) t).args.length c3)).heap[g]? = w3.heap[g]? := fun g e => (heap_setCell_other _ _ _ _ e).trans (heap_setCell_other _ _ _ _ e)
  refine bodyPost_ret (v := .agg #[.int .i64 (appT (bdT l) t).fn, .slice A3 (appT (bdT l) t).args.length c3]) (by simp [results, Try.results104, go_sem, p0, p1]) rfl ⟨A3, c3, rfl, hi3, ?_, ?_⟩
  · exact OwnT.wide (lo := W2.heap.size) (hi := w3.heap.size) (hO3.out.keep fun g h1 _ => hoth g (by omega)) (by omega) (by simp)
  · exact ((hB.trans (hk3.mono (by omega))).setCell (by show _ ≤ W.heap.size + 1; omega) _).setCell (by show _ ≤ W.heap.size + 1; omega) _

@[local go_sem] theorem run_store_func {P : Program} {w : World} {a : Addr} {m : Mode} (f : Fn) (ts cs : Array Value) : (store a (.func f ts cs) m).run P w = stored P w a (.func f ts cs) m := run_store P w a _ m rfl

theorem putter_any (l : List Bd) (A : Option Addr) (c : Nat) (w : World) (hl : l.length ≤ 9223372036854775806) (hA : Binds w (· < w.heap.size) A l) (hr : Rise l) :
    Calls Try.prog 63 #[.slice A l.length c] w fun e w' => ∃ n, e = .returned (.func (.func 104) #[] #[.pointer (some ⟨n, 0, none⟩)]) ∧ w.heap.size ≤ n ∧ Boxed w' n 83 (.func (.func 98) #[] #[.pointer (some ⟨w.heap.size, 0, none⟩)]) ∧ Boxed w' w.heap.size 23 (.slice A l.length c) ∧ Below w.heap.size w w' := by
  have H := Lib.hid (finder_any l A c w hl hA hr)
  clear hA hr
  go_enter Try.func63, Try.ntmps63
  go_wp2_with (first
    | (go_at_call 53; refine H.out.mono ?_; go_must (rintro e w1 ⟨rfl, hbx, hb1⟩; have hbx := Lib.hid hbx))
    | fail)
  go_ret
  exact ⟨w1.heap.size, rfl, hb1.size, heap_alloc_new _ _, alloc_old hbx.out, hb1.alloc hb1.size _⟩

set_option maxHeartbeats 1000000 in
theorem apply_any (l : List Bd) (A : Option Addr) (c : Nat) (t : Tm) (At : Option Addr) (ct : Nat) (w : World) (hsz : t.size ≤ 4398046511104) (hl : l.length ≤ 4611686018427387904) (hA : Binds w (· < w.heap.size) A l) (hr : Rise l) (hsm : ∀ x ∈ l, x.t.size ≤ 4398046511104) (hf : I64 t.fn) (hT : Args w w.heap.size At t.args) :
    Calls Try.prog 27 #[.slice A l.length c, .agg #[.int .i64 t.fn, .slice At t.args.length ct]] w (NewPost (appT (bdT l) t) w) := by
  obtain ⟨q0, q1⟩ := heap2 w (.cells #[.int .i64 t.fn, .slice At t.args.length ct] 31) (.cells #[.int .i64 0, .slice none 0 0] 31)
  obtain ⟨W, hW⟩ : ∃ W, ((w.alloc (.cells #[.int .i64 t.fn, .slice At t.args.length ct] 31)).alloc (.cells #[.int .i64 0, .slice none 0 0] 31)) = W := ⟨_, rfl⟩
  have hB : Below w.heap.size w W := by rw [← hW]; exact ((Below.refl _ _).alloc (Nat.le_refl _) _).alloc (by simp) _
  rw [hW] at q0 q1
  have hWs : w.heap.size + 1 < W.heap.size := (Array.getElem?_eq_some_iff.1 q1).1
  have hAW : Binds W (· < W.heap.size) A l := (hA.keep fun g e => hB.block g e).wide fun g e => Nat.lt_of_lt_of_le e hB.size
  have hAd : Binds W.drew (· < W.drew.heap.size) A l := hAW.keep fun _ _ => rfl
  have hfin := Lib.hid (finder_any l A c W.drew (by omega) hAd hr)
  have hput : ∀ w1 : World, Below W.heap.size W w1 → Boxed w1 W.heap.size 23 (.slice A l.length c) → Calls Try.prog 65 #[.agg #[.int .i64 t.fn, .slice At t.args.length ct], .func (.func 98) #[] #[.pointer (some ⟨W.heap.size, 0, none⟩)]] w1 (NewPost (appT (bdT l) t) w1) := fun w1 hb hx =>
    put_any l A c W.heap.size w1.heap.size t hsz At ct w1 (Nat.le_refl _) ⟨hl, (hAW.keep fun g e => hb.block g e).wide fun g e => Nat.lt_of_lt_of_le e hb.size, hr, hsm, hx.lt, hx⟩ hf ((hT.on hB).on hb)
  have hput := Lib.hid hput
  have HW := Lib.hid hW
  obtain ⟨a0, a1, _, _⟩ := cells_two q0
  have hSS : ∀ w', Below (w.heap.size + 1) W w' → w'.cell? ⟨w.heap.size, 0, none⟩ = some (.int .i64 t.fn) ∧ w'.cell? ⟨w.heap.size, 1, none⟩ = some (.slice At t.args.length ct) := fun w' hb => ⟨cell_on hb (by omega) a0, cell_on hb (by omega) a1⟩
  clear hW hA hAW hAd hT
  go_enter Try.func27, Try.ntmps27
  go_upto_region 1 with fail
  rw [HW.out]
  go_region_held3 (fun w' => w'.cell? ⟨w.heap.size, 0, none⟩ = some (.int .i64 t.fn) ∧ w'.cell? ⟨w.heap.size, 1, none⟩ = some (.slice At t.args.length ct))
    (first | exact ⟨a0, a1⟩ | exact hSS _ (hB3.mono (by omega)) | exact hSS _ (hB1.mono (by omega)) | exact hSS _ (((hB3.mono (by omega)).setCell (by show w.heap.size + 1 ≤ w.heap.size + 1; omega) _).setCell (by show w.heap.size + 1 ≤ w.heap.size + 1; omega) _) | fail)
    (first
      | (go_at_call 53; refine hfin.out.mono ?_; go_must (rintro e w1 ⟨rfl, hbx, hb1⟩; have hB1 : Below W.heap.size W w1 := ⟨hb1.os, hb1.tape, hb1.output, hb1.size, hb1.block⟩; have hbx := Lib.hid hbx))
      | (go_at_call 65; refine (hput.out w1 hB1 hbx.out).mono ?_; go_must (rintro e w3 ⟨A3, c3, rfl, hi3, hO3, hk3⟩; have hB3 := hB1.trans (hk3.mono hB1.size); have y3 := (hB3.block _ hWs).trans q1; obtain ⟨d0, d1, g0, g1⟩ := cells_two y3; have hO3 := Lib.hid hO3))
      | fail)
  go_wp2
  obtain ⟨z0, z1⟩ := set2_two (u := .int .i64 (appT (bdT l) t).fn) (v := .slice A3 (appT (bdT l) t).args.length c3) y3
  have k0 := (cells_two z0).1
  have k1 := (cells_two z1).2.1
  exact bodyPost_ret (v := .agg #[.int .i64 (appT (bdT l) t).fn, .slice A3 (appT (bdT l) t).args.length c3]) (by simp [results, Try.results27, go_sem, k0, k1]) rfl (put_fin (hB.trans (hB1.mono hB.size)) hk3 hO3.out hi3 (by omega) (Nat.lt_of_lt_of_le hWs hB1.size))
end Go.Proofs.Ytfkefogmpmcfeaa
