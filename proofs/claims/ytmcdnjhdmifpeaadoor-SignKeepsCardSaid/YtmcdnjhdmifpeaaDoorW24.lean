/- SignKeeps: the calls that it makes, and the case in which nothing is added. -/
import Derived.Test.YtmcdnjhdmifpeaaDoorW23
namespace Go.Proofs.YtmcdnjhdmifpeaaDoor
open Go.RowKit

/-- A signature of q symbols, and an error. -/
def AddedPost (a : List Sm) (q : Nat) (v : Int) (w : World) (e : Ending) (w' : World) : Prop :=
  ∃ A c, e = .returned (.tuple #[.agg #[.slice A q c], .int .i64 v]) ∧ Syms w' w'.heap.size A q a ∧ Below w.heap.size w w'
theorem Added_any (A A' : Option Addr) (n n' c c' : Nat) (l m a : List Sm) (q : Nat) (v : Int) (w : World) (h : Syms w w.heap.size A n l) (hm : Syms w w.heap.size A' n' m) (hn : n * 32 ≤ 140737488351232) (hn' : n' * 32 ≤ 140737488351232) (ht : tru w)
    (hv : addE l m = v) (ha : addL l m = a) (hq : a.length = q) :
    Calls Tryd.prog 19 #[.agg #[.slice A n c], .slice A' n' c'] w (AddedPost a q v w) := by
  refine (Add_any A A' n n' c c' l m w h hm hn hn' ht).mono ?_
  rintro e w2 ⟨v2, rfl, hs, hb2⟩
  rw [ha] at hs
  obtain ⟨A2, c2, rfl, hs2⟩ := hs
  rw [hq] at hs2
  exact ⟨A2, c2, by rw [hv, hq], hs2, hb2⟩
def TruePost (w : World) (e : Ending) (w' : World) : Prop := e = .returned (.bool true) ∧ Below w.heap.size w w'
theorem same_self (A A' : Option Addr) (n c c' : Nat) (l : List Sm) (w : World) (h : Syms w w.heap.size A n l) (h' : Syms w w.heap.size A' n l) (hn : n ≤ 9223372036854775807) :
    Calls Tryd.prog 12 #[.agg #[.slice A n c], .agg #[.slice A' n c']] w (TruePost w) :=
  (Same_any A A' n n c c' l l w h h' hn hn).mono fun e w' ⟨he, hb⟩ => ⟨by rw [he]; simp, hb⟩
def ZeroPost (w : World) (e : Ending) (w' : World) : Prop := e = .returned (.int .i64 0) ∧ Below w.heap.size w w'
theorem check_zero (A : Option Addr) (n c : Nat) (l : List Sm) (w : World) (h : Syms w w.heap.size A n l) (hn : n * 32 ≤ 140737488351232) (ht : tru w) (hc : checkI l = 0) :
    Calls Tryd.prog 9 #[.agg #[.slice A n c]] w (ZeroPost w) :=
  (Check_any A n c l w h hn ht).mono fun e w' ⟨he, hb⟩ => ⟨by rw [he, hc], hb⟩
def FoundPost (k : Int) (w : World) (e : Ending) (w' : World) : Prop := e = .returned (.tuple #[.int .i64 k, .bool true]) ∧ Below w.heap.size w w'
theorem find_at (A : Option Addr) (n c : Nat) (l : List Sm) (x : Sm) (k : Int) (w : World) (h : Syms w w.heap.size A n l) (hn : n ≤ 9223372036854775807) (hb : findB l x = true) (hk : findN l x = k) :
    Calls Tryd.prog 16 #[.agg #[.slice A n c], .agg #[.string x.name, .int .i64 x.arity, .bool x.pred]] w (FoundPost k w) :=
  (Find_any A n c l x w h hn).mono fun e w' ⟨he, hb'⟩ => ⟨by rw [he, hb, hk], hb'⟩
def FreshedPost (s : Sm) (v : Int) (w : World) (e : Ending) (w' : World) : Prop := e = .returned (.tuple #[.agg #[.string s.name, .int .i64 s.arity, .bool s.pred], .int .i64 v]) ∧ Below w.heap.size w w'
theorem freshed (A : Option Addr) (n c : Nat) (l : List Sm) (y : Sm) (v : Int) (w : World) (h : Syms w w.heap.size A n l) (hn : n * 32 ≤ 140737488351232) (hs : y.name.size ≤ maxLen) (ht : tru w) (hv : freshE l y.name y.arity = v) :
    Calls Tryd.prog 21 #[.agg #[.slice A n c], .string y.name, .int .i64 y.arity, .bool y.pred] w (FreshedPost (freshS l y.name y.arity y.pred) v w) :=
  (Fresh_any A n c l y.name y.arity y.pred w h hn hs ht).mono fun e w' ⟨he, hb⟩ => ⟨by rw [he, hv], hb⟩

set_option maxRecDepth 100000 in
set_option maxHeartbeats 4000000 in
theorem Keeps_err (A A' : Option Addr) (n n' c c' : Nat) (l m : List Sm) (w : World) (h : Syms w w.heap.size A n l) (hm : Syms w w.heap.size A' n' m) (hn : n * 32 ≤ 140737488351232) (hn' : n' * 32 ≤ 140737488351232) (ht : tru w) (v : Int) (hv : addE l m = v) (hv' : (v != 0) = true) :
    Calls Tryd.prog 7 #[.agg #[.slice A n c], .slice A' n' c'] w fun e w' => e = .returned (.bool true) ∧ Below w.heap.size w w' := by
  have hbx : Below w.heap.size w (w.alloc (.cells #[.slice A n c] 24)) := (Below.refl _ _).alloc (Nat.le_refl _) _
  have Hl := Lib.hid h
  have Hm := Lib.hid hm
  have Ht := Lib.hid ht
  have Hv := Lib.hid hv
  clear h hm ht hv
  go_enter Tryd.func7, Tryd.ntmps7
  go_wp2_with (first
    | (go_at_call 19
       refine (Added_any A A' n n' c c' l m [] 0 v _ (Hl.out.on hbx) (Hm.out.on hbx) hn hn' (tru_below Ht.out hbx) Hv.out (addL_err Hv.out (by simpa using hv')) rfl).mono ?_
       rintro e w1 ⟨A1, c1, rfl, hs1, hb1⟩
       have hB1 := (bl_step hbx hb1).alloc (bl_step hbx hb1).size (.cells #[.slice A1 0 c1] 24))
    | (go_at_call 8
       refine (head_any _ (tru_below Ht.out hB1)).mono ?_
       rintro e w2 ⟨rfl, hb2⟩
       have z2 := cell_on hb2 (b := w1.heap.size) (o := 0) (v := .slice A1 0 c1) (by simp) (by go_simp)
       have hB2 := bl_step hB1 hb2)
    | fail)
  go_ret
  exact ⟨rfl, hB2⟩
end Go.Proofs.YtmcdnjhdmifpeaaDoor
